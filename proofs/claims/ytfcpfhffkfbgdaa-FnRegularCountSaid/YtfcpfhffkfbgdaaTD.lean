/-
  Relations counted by a test: the model's RegularCount and RegularSquare.
-/
import Derived.Test.YtfcpfhffkfbgdaaTC
import Derived.Test.YtfcpfhffkfbgdaaTB
namespace Go.Proofs.Ytfcpfhffkfbgdaa
open Go.RowKit
attribute [local go_sem] wr0 wr1 wr2 wr3 wr4 wr6 wr7 wr8

theorem cntL_next (m : Nat) (p : List Int → Bool) (c : Nat) : cntL m p (List.range (c + 1)) = cntL m p (List.range c) + if p (codeR m c) then 1 else 0 := by
  rw [List.range_succ]
  exact cntL_snoc m p _ c

set_option maxHeartbeats 4000000 in
theorem specRegularCount_1 (p : List Int → Bool) (hp : regB = p) (L Z : Nat) (hZ : Z = 2) (w : World) (hL : cntL 1 p (List.range Z) = L) :
    Calls Try.prog 24 #[.int .i64 1] w fun e w' => e = .returned (.tuple #[.int .i64 (L : Nat), .bool true]) ∧ Below w.heap.size w w' := by
  have h6 := fun W => l6In_any (1 : Int) 1 3 W
  have hin : inB (1 : Int) 1 3 = true := by decide
  rw [hin] at h6
  have H6 := Lib.hid h6
  have HL := Lib.hid hL
  have HP := Lib.hid hp
  have HZ := Lib.hid hZ
  clear h6 hin hL hp hZ
  go_enter Try.func24, Try.ntmps24
  go_wp2_with fail
  refine (H6.out _).mono ?_
  rintro e w1 ⟨rfl, rfl⟩
  go_wp2
  have B2 := Below.refl w.heap.size w
  go_loopw [4, 5] (fun n i wr => ∃ c : Nat, c ≤ 2 ∧ i = .int .i64 c ∧ n = .int .i64 (cntL 1 p (List.range c) : Nat) ∧ Below w.heap.size w wr)
    (fun _ i _ => 2 - (intOf i).toNat)
  case atStart => exact ⟨0, Nat.zero_le _, rfl, rfl, B2⟩
  case round =>
    clear B2
    obtain ⟨c, hc, rfl, rfl, hB⟩ := hrel
    have hle := cntL_le 1 p (List.range c)
    rw [List.length_range] at hle
    have hnx := cntL_next 1 p c
    obtain ⟨q, hq⟩ : ∃ q, cntL 1 p (List.range c) = q := ⟨_, rfl⟩
    rw [hq] at hle hnx
    rw [hq]
    have HN := Lib.hid hnx
    have HQ := Lib.hid hq
    clear hnx hq
    by_cases hlt : c < 2
    · have R : Rl 1 (codeR 1 c) := codeR_rl (by omega) (by omega) hlt
      have HR := Lib.hid R
      clear R
      have hi1 : (c : Int) < 2 := by omega
      go_wp2_with fail
      clear hi1
      refine (l3Rel_1 c wr).mono ?_
      rintro e w3 ⟨v, rfl, ho, hb3⟩
      obtain ⟨g, qc, rfl, _, _, hrd⟩ := GaveL.form ho (Rl.pos HR.out)
      have hall := l7Regular_any HR.out (some ⟨g, 0, none⟩) qc w3 hrd
      rw [HP.out] at hall
      have B3 := hB.trans (hb3.mono hB.size)
      clear ho hb3 hrd hB
      cases hk : p (codeR 1 c) with
      | true =>
        rw [hk] at hall HN
        have HA := Lib.hid hall
        clear hall hk
        go_wp2_with fail
        refine HA.out.mono ?_
        rintro e w4 ⟨rfl, hb4⟩
        go_wp2
        go_roundw
        case rel => exact ⟨c + 1, by omega, by go_num, by rw [HN.out]; rfl, B3.trans (hb4.mono B3.size)⟩
        case measure => simp [intOf]; omega
      | false =>
        rw [hk] at hall HN
        have HA := Lib.hid hall
        clear hall hk
        go_wp2_with fail
        refine HA.out.mono ?_
        rintro e w4 ⟨rfl, hb4⟩
        go_wp2
        go_roundw
        case rel => exact ⟨c + 1, by omega, by go_num, by rw [HN.out]; rfl, B3.trans (hb4.mono B3.size)⟩
        case measure => simp [intOf]; omega
    · have HE := Lib.hid (show q = L by rw [← HQ.out, ← HL.out, HZ.out, show c = 2 by omega])
      have hi1 : ¬ (c : Int) < 2 := by omega
      go_wp2
      go_ret2
      exact ⟨by rw [← HE.out]; rfl, hB⟩

set_option maxHeartbeats 4000000 in
theorem specRegularSquare_1 (p : List Int → Bool) (hp : sqB = p) (L Z : Nat) (hZ : Z = 2) (w : World) (hL : cntL 1 p (List.range Z) = L) :
    Calls Try.prog 26 #[.int .i64 1] w fun e w' => e = .returned (.tuple #[.int .i64 (L : Nat), .bool true]) ∧ Below w.heap.size w w' := by
  have h6 := fun W => l6In_any (1 : Int) 1 3 W
  have hin : inB (1 : Int) 1 3 = true := by decide
  rw [hin] at h6
  have H6 := Lib.hid h6
  have HL := Lib.hid hL
  have HP := Lib.hid hp
  have HZ := Lib.hid hZ
  clear h6 hin hL hp hZ
  go_enter Try.func26, Try.ntmps26
  go_wp2_with fail
  refine (H6.out _).mono ?_
  rintro e w1 ⟨rfl, rfl⟩
  go_wp2
  have B2 := Below.refl w.heap.size w
  go_loopw [4, 5] (fun n i wr => ∃ c : Nat, c ≤ 2 ∧ i = .int .i64 c ∧ n = .int .i64 (cntL 1 p (List.range c) : Nat) ∧ Below w.heap.size w wr)
    (fun _ i _ => 2 - (intOf i).toNat)
  case atStart => exact ⟨0, Nat.zero_le _, rfl, rfl, B2⟩
  case round =>
    clear B2
    obtain ⟨c, hc, rfl, rfl, hB⟩ := hrel
    have hle := cntL_le 1 p (List.range c)
    rw [List.length_range] at hle
    have hnx := cntL_next 1 p c
    obtain ⟨q, hq⟩ : ∃ q, cntL 1 p (List.range c) = q := ⟨_, rfl⟩
    rw [hq] at hle hnx
    rw [hq]
    have HN := Lib.hid hnx
    have HQ := Lib.hid hq
    clear hnx hq
    by_cases hlt : c < 2
    · have R : Rl 1 (codeR 1 c) := codeR_rl (by omega) (by omega) hlt
      have HR := Lib.hid R
      clear R
      have hi1 : (c : Int) < 2 := by omega
      go_wp2_with fail
      clear hi1
      refine (l3Rel_1 c wr).mono ?_
      rintro e w3 ⟨v, rfl, ho, hb3⟩
      obtain ⟨g, qc, rfl, _, _, hrd⟩ := GaveL.form ho (Rl.pos HR.out)
      have hco := sComp HR.out HR.out (some ⟨g, 0, none⟩) (some ⟨g, 0, none⟩) qc qc w3 hrd hrd
      have hcl := Rl.pos (HR.out.comp HR.out)
      have h16 : (compL (codeR 1 c) (codeR 1 c)).length ≤ 1048576 ∧ (codeR 1 c).length ≤ 1048576 := by rw [(HR.out.comp HR.out).len, HR.out.len]; omega
      have hall := fun v (r4 : Rd w3 (some ⟨g, 0, none⟩) (codeR 1 c)) w4 (hb4 : Below w3.heap.size w3 w4) (o4 : w4.ownsRow w3.heap.size 3 1 v (compL (codeR 1 c) (codeR 1 c)).length ((compL (codeR 1 c) (codeR 1 c)).map (Value.int .i64))) => (show ∃ gc qcc, v = .slice (some ⟨gc, 0, none⟩) (compL (codeR 1 c) (codeR 1 c)).length qcc ∧ Calls Try.prog 52 #[.slice (some ⟨gc, 0, none⟩) (compL (codeR 1 c) (codeR 1 c)).length qcc, .slice (some ⟨g, 0, none⟩) (codeR 1 c).length qc] w4 fun e w' => e = .returned (.bool (p (codeR 1 c))) ∧ Dn w4 w' from by
        obtain ⟨gc, qcc, rfl, _, _, rc⟩ := GaveL.form o4 hcl
        exact ⟨gc, qcc, rfl, HP.out ▸ l2Equal_any _ _ qcc qc _ _ w4 h16.1 h16.2 rc (r4.below hb4)⟩)
      have hall := fun v w4 hb4 o4 => hall v hrd w4 hb4 o4
      have B3 := hB.trans (hb3.mono hB.size)
      have HCO := Lib.hid hco
      clear ho hb3 hrd hB hcl h16 hco
      cases hk : p (codeR 1 c) with
      | true =>
        rw [hk] at hall HN
        have HA := Lib.hid hall
        clear hall hk
        go_wp2_with fail
        refine HCO.out.mono ?_
        rintro e w5 ⟨v, rfl, o5, hb5⟩
        obtain ⟨gc, qcc, rfl, hca⟩ := HA.out v w5 hb5 o5
        clear o5
        go_wp2_with fail
        refine hca.mono ?_
        rintro e w4 ⟨rfl, hd4⟩
        have hb4 := hb5.trans (hd4.below _)
        clear hca hb5 hd4
        go_wp2
        go_roundw
        case rel => exact ⟨c + 1, by omega, by go_num, by rw [HN.out]; rfl, B3.trans (hb4.mono B3.size)⟩
        case measure => simp [intOf]; omega
      | false =>
        rw [hk] at hall HN
        have HA := Lib.hid hall
        clear hall hk
        go_wp2_with fail
        refine HCO.out.mono ?_
        rintro e w5 ⟨v, rfl, o5, hb5⟩
        obtain ⟨gc, qcc, rfl, hca⟩ := HA.out v w5 hb5 o5
        clear o5
        go_wp2_with fail
        refine hca.mono ?_
        rintro e w4 ⟨rfl, hd4⟩
        have hb4 := hb5.trans (hd4.below _)
        clear hca hb5 hd4
        go_wp2
        go_roundw
        case rel => exact ⟨c + 1, by omega, by go_num, by rw [HN.out]; rfl, B3.trans (hb4.mono B3.size)⟩
        case measure => simp [intOf]; omega
    · have HE := Lib.hid (show q = L by rw [← HQ.out, ← HL.out, HZ.out, show c = 2 by omega])
      have hi1 : ¬ (c : Int) < 2 := by omega
      go_wp2
      go_ret2
      exact ⟨by rw [← HE.out]; rfl, hB⟩

set_option maxHeartbeats 4000000 in
theorem specRegularCount_2 (p : List Int → Bool) (hp : regB = p) (L Z : Nat) (hZ : Z = 16) (w : World) (hL : cntL 2 p (List.range Z) = L) :
    Calls Try.prog 24 #[.int .i64 2] w fun e w' => e = .returned (.tuple #[.int .i64 (L : Nat), .bool true]) ∧ Below w.heap.size w w' := by
  have h6 := fun W => l6In_any (2 : Int) 1 3 W
  have hin : inB (2 : Int) 1 3 = true := by decide
  rw [hin] at h6
  have H6 := Lib.hid h6
  have HL := Lib.hid hL
  have HP := Lib.hid hp
  have HZ := Lib.hid hZ
  clear h6 hin hL hp hZ
  go_enter Try.func24, Try.ntmps24
  go_wp2_with fail
  refine (H6.out _).mono ?_
  rintro e w1 ⟨rfl, rfl⟩
  go_wp2
  have B2 := Below.refl w.heap.size w
  go_loopw [4, 5] (fun n i wr => ∃ c : Nat, c ≤ 16 ∧ i = .int .i64 c ∧ n = .int .i64 (cntL 2 p (List.range c) : Nat) ∧ Below w.heap.size w wr)
    (fun _ i _ => 16 - (intOf i).toNat)
  case atStart => exact ⟨0, Nat.zero_le _, rfl, rfl, B2⟩
  case round =>
    clear B2
    obtain ⟨c, hc, rfl, rfl, hB⟩ := hrel
    have hle := cntL_le 2 p (List.range c)
    rw [List.length_range] at hle
    have hnx := cntL_next 2 p c
    obtain ⟨q, hq⟩ : ∃ q, cntL 2 p (List.range c) = q := ⟨_, rfl⟩
    rw [hq] at hle hnx
    rw [hq]
    have HN := Lib.hid hnx
    have HQ := Lib.hid hq
    clear hnx hq
    by_cases hlt : c < 16
    · have R : Rl 2 (codeR 2 c) := codeR_rl (by omega) (by omega) hlt
      have HR := Lib.hid R
      clear R
      have hi1 : (c : Int) < 16 := by omega
      go_wp2_with fail
      clear hi1
      refine (l3Rel_2 c wr).mono ?_
      rintro e w3 ⟨v, rfl, ho, hb3⟩
      obtain ⟨g, qc, rfl, _, _, hrd⟩ := GaveL.form ho (Rl.pos HR.out)
      have hall := l7Regular_any HR.out (some ⟨g, 0, none⟩) qc w3 hrd
      rw [HP.out] at hall
      have B3 := hB.trans (hb3.mono hB.size)
      clear ho hb3 hrd hB
      cases hk : p (codeR 2 c) with
      | true =>
        rw [hk] at hall HN
        have HA := Lib.hid hall
        clear hall hk
        go_wp2_with fail
        refine HA.out.mono ?_
        rintro e w4 ⟨rfl, hb4⟩
        go_wp2
        go_roundw
        case rel => exact ⟨c + 1, by omega, by go_num, by rw [HN.out]; rfl, B3.trans (hb4.mono B3.size)⟩
        case measure => simp [intOf]; omega
      | false =>
        rw [hk] at hall HN
        have HA := Lib.hid hall
        clear hall hk
        go_wp2_with fail
        refine HA.out.mono ?_
        rintro e w4 ⟨rfl, hb4⟩
        go_wp2
        go_roundw
        case rel => exact ⟨c + 1, by omega, by go_num, by rw [HN.out]; rfl, B3.trans (hb4.mono B3.size)⟩
        case measure => simp [intOf]; omega
    · have HE := Lib.hid (show q = L by rw [← HQ.out, ← HL.out, HZ.out, show c = 16 by omega])
      have hi1 : ¬ (c : Int) < 16 := by omega
      go_wp2
      go_ret2
      exact ⟨by rw [← HE.out]; rfl, hB⟩

set_option maxHeartbeats 4000000 in
theorem specRegularSquare_2 (p : List Int → Bool) (hp : sqB = p) (L Z : Nat) (hZ : Z = 16) (w : World) (hL : cntL 2 p (List.range Z) = L) :
    Calls Try.prog 26 #[.int .i64 2] w fun e w' => e = .returned (.tuple #[.int .i64 (L : Nat), .bool true]) ∧ Below w.heap.size w w' := by
  have h6 := fun W => l6In_any (2 : Int) 1 3 W
  have hin : inB (2 : Int) 1 3 = true := by decide
  rw [hin] at h6
  have H6 := Lib.hid h6
  have HL := Lib.hid hL
  have HP := Lib.hid hp
  have HZ := Lib.hid hZ
  clear h6 hin hL hp hZ
  go_enter Try.func26, Try.ntmps26
  go_wp2_with fail
  refine (H6.out _).mono ?_
  rintro e w1 ⟨rfl, rfl⟩
  go_wp2
  have B2 := Below.refl w.heap.size w
  go_loopw [4, 5] (fun n i wr => ∃ c : Nat, c ≤ 16 ∧ i = .int .i64 c ∧ n = .int .i64 (cntL 2 p (List.range c) : Nat) ∧ Below w.heap.size w wr)
    (fun _ i _ => 16 - (intOf i).toNat)
  case atStart => exact ⟨0, Nat.zero_le _, rfl, rfl, B2⟩
  case round =>
    clear B2
    obtain ⟨c, hc, rfl, rfl, hB⟩ := hrel
    have hle := cntL_le 2 p (List.range c)
    rw [List.length_range] at hle
    have hnx := cntL_next 2 p c
    obtain ⟨q, hq⟩ : ∃ q, cntL 2 p (List.range c) = q := ⟨_, rfl⟩
    rw [hq] at hle hnx
    rw [hq]
    have HN := Lib.hid hnx
    have HQ := Lib.hid hq
    clear hnx hq
    by_cases hlt : c < 16
    · have R : Rl 2 (codeR 2 c) := codeR_rl (by omega) (by omega) hlt
      have HR := Lib.hid R
      clear R
      have hi1 : (c : Int) < 16 := by omega
      go_wp2_with fail
      clear hi1
      refine (l3Rel_2 c wr).mono ?_
      rintro e w3 ⟨v, rfl, ho, hb3⟩
      obtain ⟨g, qc, rfl, _, _, hrd⟩ := GaveL.form ho (Rl.pos HR.out)
      have hco := sComp HR.out HR.out (some ⟨g, 0, none⟩) (some ⟨g, 0, none⟩) qc qc w3 hrd hrd
      have hcl := Rl.pos (HR.out.comp HR.out)
      have h16 : (compL (codeR 2 c) (codeR 2 c)).length ≤ 1048576 ∧ (codeR 2 c).length ≤ 1048576 := by rw [(HR.out.comp HR.out).len, HR.out.len]; omega
      have hall := fun v (r4 : Rd w3 (some ⟨g, 0, none⟩) (codeR 2 c)) w4 (hb4 : Below w3.heap.size w3 w4) (o4 : w4.ownsRow w3.heap.size 3 1 v (compL (codeR 2 c) (codeR 2 c)).length ((compL (codeR 2 c) (codeR 2 c)).map (Value.int .i64))) => (show ∃ gc qcc, v = .slice (some ⟨gc, 0, none⟩) (compL (codeR 2 c) (codeR 2 c)).length qcc ∧ Calls Try.prog 52 #[.slice (some ⟨gc, 0, none⟩) (compL (codeR 2 c) (codeR 2 c)).length qcc, .slice (some ⟨g, 0, none⟩) (codeR 2 c).length qc] w4 fun e w' => e = .returned (.bool (p (codeR 2 c))) ∧ Dn w4 w' from by
        obtain ⟨gc, qcc, rfl, _, _, rc⟩ := GaveL.form o4 hcl
        exact ⟨gc, qcc, rfl, HP.out ▸ l2Equal_any _ _ qcc qc _ _ w4 h16.1 h16.2 rc (r4.below hb4)⟩)
      have hall := fun v w4 hb4 o4 => hall v hrd w4 hb4 o4
      have B3 := hB.trans (hb3.mono hB.size)
      have HCO := Lib.hid hco
      clear ho hb3 hrd hB hcl h16 hco
      cases hk : p (codeR 2 c) with
      | true =>
        rw [hk] at hall HN
        have HA := Lib.hid hall
        clear hall hk
        go_wp2_with fail
        refine HCO.out.mono ?_
        rintro e w5 ⟨v, rfl, o5, hb5⟩
        obtain ⟨gc, qcc, rfl, hca⟩ := HA.out v w5 hb5 o5
        clear o5
        go_wp2_with fail
        refine hca.mono ?_
        rintro e w4 ⟨rfl, hd4⟩
        have hb4 := hb5.trans (hd4.below _)
        clear hca hb5 hd4
        go_wp2
        go_roundw
        case rel => exact ⟨c + 1, by omega, by go_num, by rw [HN.out]; rfl, B3.trans (hb4.mono B3.size)⟩
        case measure => simp [intOf]; omega
      | false =>
        rw [hk] at hall HN
        have HA := Lib.hid hall
        clear hall hk
        go_wp2_with fail
        refine HCO.out.mono ?_
        rintro e w5 ⟨v, rfl, o5, hb5⟩
        obtain ⟨gc, qcc, rfl, hca⟩ := HA.out v w5 hb5 o5
        clear o5
        go_wp2_with fail
        refine hca.mono ?_
        rintro e w4 ⟨rfl, hd4⟩
        have hb4 := hb5.trans (hd4.below _)
        clear hca hb5 hd4
        go_wp2
        go_roundw
        case rel => exact ⟨c + 1, by omega, by go_num, by rw [HN.out]; rfl, B3.trans (hb4.mono B3.size)⟩
        case measure => simp [intOf]; omega
    · have HE := Lib.hid (show q = L by rw [← HQ.out, ← HL.out, HZ.out, show c = 16 by omega])
      have hi1 : ¬ (c : Int) < 16 := by omega
      go_wp2
      go_ret2
      exact ⟨by rw [← HE.out]; rfl, hB⟩

set_option maxHeartbeats 4000000 in
theorem specRegularCount_3 (p : List Int → Bool) (hp : regB = p) (L Z : Nat) (hZ : Z = 512) (w : World) (hL : cntL 3 p (List.range Z) = L) :
    Calls Try.prog 24 #[.int .i64 3] w fun e w' => e = .returned (.tuple #[.int .i64 (L : Nat), .bool true]) ∧ Below w.heap.size w w' := by
  have h6 := fun W => l6In_any (3 : Int) 1 3 W
  have hin : inB (3 : Int) 1 3 = true := by decide
  rw [hin] at h6
  have H6 := Lib.hid h6
  have HL := Lib.hid hL
  have HP := Lib.hid hp
  have HZ := Lib.hid hZ
  clear h6 hin hL hp hZ
  go_enter Try.func24, Try.ntmps24
  go_wp2_with fail
  refine (H6.out _).mono ?_
  rintro e w1 ⟨rfl, rfl⟩
  go_wp2
  have B2 := Below.refl w.heap.size w
  go_loopw [4, 5] (fun n i wr => ∃ c : Nat, c ≤ 512 ∧ i = .int .i64 c ∧ n = .int .i64 (cntL 3 p (List.range c) : Nat) ∧ Below w.heap.size w wr)
    (fun _ i _ => 512 - (intOf i).toNat)
  case atStart => exact ⟨0, Nat.zero_le _, rfl, rfl, B2⟩
  case round =>
    clear B2
    obtain ⟨c, hc, rfl, rfl, hB⟩ := hrel
    have hle := cntL_le 3 p (List.range c)
    rw [List.length_range] at hle
    have hnx := cntL_next 3 p c
    obtain ⟨q, hq⟩ : ∃ q, cntL 3 p (List.range c) = q := ⟨_, rfl⟩
    rw [hq] at hle hnx
    rw [hq]
    have HN := Lib.hid hnx
    have HQ := Lib.hid hq
    clear hnx hq
    by_cases hlt : c < 512
    · have R : Rl 3 (codeR 3 c) := codeR_rl (by omega) (by omega) hlt
      have HR := Lib.hid R
      clear R
      have hi1 : (c : Int) < 512 := by omega
      go_wp2_with fail
      clear hi1
      refine (l3Rel_3 c wr).mono ?_
      rintro e w3 ⟨v, rfl, ho, hb3⟩
      obtain ⟨g, qc, rfl, _, _, hrd⟩ := GaveL.form ho (Rl.pos HR.out)
      have hall := l7Regular_any HR.out (some ⟨g, 0, none⟩) qc w3 hrd
      rw [HP.out] at hall
      have B3 := hB.trans (hb3.mono hB.size)
      clear ho hb3 hrd hB
      cases hk : p (codeR 3 c) with
      | true =>
        rw [hk] at hall HN
        have HA := Lib.hid hall
        clear hall hk
        go_wp2_with fail
        refine HA.out.mono ?_
        rintro e w4 ⟨rfl, hb4⟩
        go_wp2
        go_roundw
        case rel => exact ⟨c + 1, by omega, by go_num, by rw [HN.out]; rfl, B3.trans (hb4.mono B3.size)⟩
        case measure => simp [intOf]; omega
      | false =>
        rw [hk] at hall HN
        have HA := Lib.hid hall
        clear hall hk
        go_wp2_with fail
        refine HA.out.mono ?_
        rintro e w4 ⟨rfl, hb4⟩
        go_wp2
        go_roundw
        case rel => exact ⟨c + 1, by omega, by go_num, by rw [HN.out]; rfl, B3.trans (hb4.mono B3.size)⟩
        case measure => simp [intOf]; omega
    · have HE := Lib.hid (show q = L by rw [← HQ.out, ← HL.out, HZ.out, show c = 512 by omega])
      have hi1 : ¬ (c : Int) < 512 := by omega
      go_wp2
      go_ret2
      exact ⟨by rw [← HE.out]; rfl, hB⟩

set_option maxHeartbeats 4000000 in
theorem specRegularSquare_3 (p : List Int → Bool) (hp : sqB = p) (L Z : Nat) (hZ : Z = 512) (w : World) (hL : cntL 3 p (List.range Z) = L) :
    Calls Try.prog 26 #[.int .i64 3] w fun e w' => e = .returned (.tuple #[.int .i64 (L : Nat), .bool true]) ∧ Below w.heap.size w w' := by
  have h6 := fun W => l6In_any (3 : Int) 1 3 W
  have hin : inB (3 : Int) 1 3 = true := by decide
  rw [hin] at h6
  have H6 := Lib.hid h6
  have HL := Lib.hid hL
  have HP := Lib.hid hp
  have HZ := Lib.hid hZ
  clear h6 hin hL hp hZ
  go_enter Try.func26, Try.ntmps26
  go_wp2_with fail
  refine (H6.out _).mono ?_
  rintro e w1 ⟨rfl, rfl⟩
  go_wp2
  have B2 := Below.refl w.heap.size w
  go_loopw [4, 5] (fun n i wr => ∃ c : Nat, c ≤ 512 ∧ i = .int .i64 c ∧ n = .int .i64 (cntL 3 p (List.range c) : Nat) ∧ Below w.heap.size w wr)
    (fun _ i _ => 512 - (intOf i).toNat)
  case atStart => exact ⟨0, Nat.zero_le _, rfl, rfl, B2⟩
  case round =>
    clear B2
    obtain ⟨c, hc, rfl, rfl, hB⟩ := hrel
    have hle := cntL_le 3 p (List.range c)
    rw [List.length_range] at hle
    have hnx := cntL_next 3 p c
    obtain ⟨q, hq⟩ : ∃ q, cntL 3 p (List.range c) = q := ⟨_, rfl⟩
    rw [hq] at hle hnx
    rw [hq]
    have HN := Lib.hid hnx
    have HQ := Lib.hid hq
    clear hnx hq
    by_cases hlt : c < 512
    · have R : Rl 3 (codeR 3 c) := codeR_rl (by omega) (by omega) hlt
      have HR := Lib.hid R
      clear R
      have hi1 : (c : Int) < 512 := by omega
      go_wp2_with fail
      clear hi1
      refine (l3Rel_3 c wr).mono ?_
      rintro e w3 ⟨v, rfl, ho, hb3⟩
      obtain ⟨g, qc, rfl, _, _, hrd⟩ := GaveL.form ho (Rl.pos HR.out)
      have hco := sComp HR.out HR.out (some ⟨g, 0, none⟩) (some ⟨g, 0, none⟩) qc qc w3 hrd hrd
      have hcl := Rl.pos (HR.out.comp HR.out)
      have h16 : (compL (codeR 3 c) (codeR 3 c)).length ≤ 1048576 ∧ (codeR 3 c).length ≤ 1048576 := by rw [(HR.out.comp HR.out).len, HR.out.len]; omega
      have hall := fun v (r4 : Rd w3 (some ⟨g, 0, none⟩) (codeR 3 c)) w4 (hb4 : Below w3.heap.size w3 w4) (o4 : w4.ownsRow w3.heap.size 3 1 v (compL (codeR 3 c) (codeR 3 c)).length ((compL (codeR 3 c) (codeR 3 c)).map (Value.int .i64))) => (show ∃ gc qcc, v = .slice (some ⟨gc, 0, none⟩) (compL (codeR 3 c) (codeR 3 c)).length qcc ∧ Calls Try.prog 52 #[.slice (some ⟨gc, 0, none⟩) (compL (codeR 3 c) (codeR 3 c)).length qcc, .slice (some ⟨g, 0, none⟩) (codeR 3 c).length qc] w4 fun e w' => e = .returned (.bool (p (codeR 3 c))) ∧ Dn w4 w' from by
        obtain ⟨gc, qcc, rfl, _, _, rc⟩ := GaveL.form o4 hcl
        exact ⟨gc, qcc, rfl, HP.out ▸ l2Equal_any _ _ qcc qc _ _ w4 h16.1 h16.2 rc (r4.below hb4)⟩)
      have hall := fun v w4 hb4 o4 => hall v hrd w4 hb4 o4
      have B3 := hB.trans (hb3.mono hB.size)
      have HCO := Lib.hid hco
      clear ho hb3 hrd hB hcl h16 hco
      cases hk : p (codeR 3 c) with
      | true =>
        rw [hk] at hall HN
        have HA := Lib.hid hall
        clear hall hk
        go_wp2_with fail
        refine HCO.out.mono ?_
        rintro e w5 ⟨v, rfl, o5, hb5⟩
        obtain ⟨gc, qcc, rfl, hca⟩ := HA.out v w5 hb5 o5
        clear o5
        go_wp2_with fail
        refine hca.mono ?_
        rintro e w4 ⟨rfl, hd4⟩
        have hb4 := hb5.trans (hd4.below _)
        clear hca hb5 hd4
        go_wp2
        go_roundw
        case rel => exact ⟨c + 1, by omega, by go_num, by rw [HN.out]; rfl, B3.trans (hb4.mono B3.size)⟩
        case measure => simp [intOf]; omega
      | false =>
        rw [hk] at hall HN
        have HA := Lib.hid hall
        clear hall hk
        go_wp2_with fail
        refine HCO.out.mono ?_
        rintro e w5 ⟨v, rfl, o5, hb5⟩
        obtain ⟨gc, qcc, rfl, hca⟩ := HA.out v w5 hb5 o5
        clear o5
        go_wp2_with fail
        refine hca.mono ?_
        rintro e w4 ⟨rfl, hd4⟩
        have hb4 := hb5.trans (hd4.below _)
        clear hca hb5 hd4
        go_wp2
        go_roundw
        case rel => exact ⟨c + 1, by omega, by go_num, by rw [HN.out]; rfl, B3.trans (hb4.mono B3.size)⟩
        case measure => simp [intOf]; omega
    · have HE := Lib.hid (show q = L by rw [← HQ.out, ← HL.out, HZ.out, show c = 512 by omega])
      have hi1 : ¬ (c : Int) < 512 := by omega
      go_wp2
      go_ret2
      exact ⟨by rw [← HE.out]; rfl, hB⟩

theorem specRegularCount_no (n : Int) (w : World) (hno : inB n 1 3 = false) :
    Calls Try.prog 24 #[.int .i64 n] w fun e w' => e = .returned (.tuple #[.int .i64 0, .bool false]) ∧ Below w.heap.size w w' := by
  have h6 := fun W => l6In_any n 1 3 W
  rw [hno] at h6
  have H6 := Lib.hid h6
  clear h6 hno
  go_enter Try.func24, Try.ntmps24
  go_wp2_with fail
  refine (H6.out _).mono ?_
  rintro e w1 ⟨rfl, rfl⟩
  go_wp2
  go_ret2
  exact ⟨rfl, Below.refl _ _⟩
theorem specRegularCount_any (n : Int) (w : World) : Calls Try.prog 24 #[.int .i64 n] w fun e w' => e = .returned (.tuple #[.int .i64 (countP n regB), .bool (inB n 1 3)]) ∧ Below w.heap.size w w' := by
  unfold countP
  cases hb : inB n 1 3 with
  | false =>
    rw [if_neg (by simp)]
    exact specRegularCount_no n w hb
  | true =>
    rw [if_pos rfl]
    obtain ⟨m, rfl, h1, h3⟩ := nat_of hb
    rcases (by omega : m = 1 ∨ m = 2 ∨ m = 3) with rfl | rfl | rfl
    · exact specRegularCount_1 regB rfl _ _ rfl w rfl
    · exact specRegularCount_2 regB rfl _ _ rfl w rfl
    · exact specRegularCount_3 regB rfl _ _ rfl w rfl

theorem specRegularSquare_no (n : Int) (w : World) (hno : inB n 1 3 = false) :
    Calls Try.prog 26 #[.int .i64 n] w fun e w' => e = .returned (.tuple #[.int .i64 0, .bool false]) ∧ Below w.heap.size w w' := by
  have h6 := fun W => l6In_any n 1 3 W
  rw [hno] at h6
  have H6 := Lib.hid h6
  clear h6 hno
  go_enter Try.func26, Try.ntmps26
  go_wp2_with fail
  refine (H6.out _).mono ?_
  rintro e w1 ⟨rfl, rfl⟩
  go_wp2
  go_ret2
  exact ⟨rfl, Below.refl _ _⟩
theorem specRegularSquare_any (n : Int) (w : World) : Calls Try.prog 26 #[.int .i64 n] w fun e w' => e = .returned (.tuple #[.int .i64 (countP n sqB), .bool (inB n 1 3)]) ∧ Below w.heap.size w w' := by
  unfold countP
  cases hb : inB n 1 3 with
  | false =>
    rw [if_neg (by simp)]
    exact specRegularSquare_no n w hb
  | true =>
    rw [if_pos rfl]
    obtain ⟨m, rfl, h1, h3⟩ := nat_of hb
    rcases (by omega : m = 1 ∨ m = 2 ∨ m = 3) with rfl | rfl | rfl
    · exact specRegularSquare_1 sqB rfl _ _ rfl w rfl
    · exact specRegularSquare_2 sqB rfl _ _ rfl w rfl
    · exact specRegularSquare_3 sqB rfl _ _ rfl w rfl

end Go.Proofs.Ytfcpfhffkfbgdaa
