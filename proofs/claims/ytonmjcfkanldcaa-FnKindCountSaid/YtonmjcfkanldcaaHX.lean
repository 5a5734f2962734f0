/-
  The program's KindCount.
-/
import Derived.Test.YtonmjcfkanldcaaHH
import Derived.StillTailTactics
import Derived.Test.YtonmjcfkanldcaaV
import Derived.Test.YtonmjcfkanldcaaAD
namespace Go.Proofs.Ytonmjcfkanldcaa
open Go.RowKit Go.Maps

/-- the relation on m points that a number tells -/
def codeW (m c i : Nat) : Int := bits .and .i64 ((c : Int) / 2 ^ (m * i)) (2 ^ m - 1)
def codeR (m c : Nat) : List Int := (List.range m).map (codeW m c)
theorem codeR_len (m c : Nat) : (codeR m c).length = m := by unfold codeR; simp
theorem low1 : ∀ x : Fin 2, ∃ u : Fin 16, bits .and .i64 (x.val : Int) (2 ^ 1 - 1) = (u.val : Int) ∧ u.val < 2 ^ 1 := by decide +kernel
theorem low2 : ∀ x : Fin 16, ∃ u : Fin 16, bits .and .i64 (x.val : Int) (2 ^ 2 - 1) = (u.val : Int) ∧ u.val < 2 ^ 2 := by decide +kernel
theorem low3 : ∀ x : Fin 512, ∃ u : Fin 16, bits .and .i64 (x.val : Int) (2 ^ 3 - 1) = (u.val : Int) ∧ u.val < 2 ^ 3 := by decide +kernel
theorem div_nat (c k : Nat) : (c : Int) / 2 ^ k = ((c / 2 ^ k : Nat) : Int) := by
  rw [Int.natCast_ediv]
  simp
theorem codeW_low {m c i : Nat} (h1 : 1 ≤ m) (h3 : m ≤ 3) (hc : c < 2 ^ (m * m)) : ∃ u : Fin 16, codeW m c i = (u.val : Int) ∧ u.val < 2 ^ m := by
  unfold codeW
  rw [div_nat]
  have hle : c / 2 ^ (m * i) ≤ c := Nat.div_le_self _ _
  rcases (by omega : m = 1 ∨ m = 2 ∨ m = 3) with rfl | rfl | rfl
  · exact low1 ⟨c / 2 ^ (1 * i), by simp at hc; omega⟩
  · exact low2 ⟨c / 2 ^ (2 * i), by simp at hc; omega⟩
  · exact low3 ⟨c / 2 ^ (3 * i), by simp at hc; omega⟩
theorem codeR_at (m c i : Nat) (hi : i < m) : rowAt (codeR m c) i = codeW m c i := by
  unfold rowAt codeR
  rw [List.getD_eq_getElem?_getD, List.getElem?_map, List.getElem?_range hi]
  rfl
theorem codeR_rl {m c : Nat} (h1 : 1 ≤ m) (h3 : m ≤ 3) (hc : c < 2 ^ (m * m)) : Rl m (codeR m c) :=
  Rl.mk' (codeR_len m c) h1 (by omega) fun i hi => by
    rw [codeR_at m c i hi]
    exact codeW_low h1 h3 hc
theorem codeR_take (m c k : Nat) (hk : k < m) : (codeR m c).take (k + 1) = (codeR m c).take k ++ [codeW m c k] := by
  unfold codeR
  rw [List.take_succ_eq_append_getElem (by simpa using hk)]
  simp
/-- how many of the first k are of all kinds of a text -/
def countC (m : Nat) (st : ByteArray) (pre : List Nat) : Nat := (pre.filter fun c => allK (codeR m c) st).length
theorem countC_snoc (m : Nat) (st : ByteArray) (pre : List Nat) (c : Nat) : countC m st (pre ++ [c]) = countC m st pre + if allK (codeR m c) st then 1 else 0 := by
  unfold countC
  rw [List.filter_append, List.length_append]
  congr 1
  cases h : allK (codeR m c) st <;> simp [h]
theorem countC_le (m : Nat) (st : ByteArray) (pre : List Nat) : countC m st pre ≤ pre.length := List.length_filter_le _ _
def countB (n : Int) (st : ByteArray) : Bool := inB n 1 3 && textTo st risat st.size
def countR (n : Int) (st : ByteArray) : Int := if countB n st then (countC n.toNat st (List.range (2 ^ (n.toNat * n.toNat))) : Nat) else 0

theorem wr0 : IntKind.i64.wrap 0 = 0 := by decide
theorem wr1 : IntKind.i64.wrap 1 = 1 := by decide
theorem wr2 : IntKind.i64.wrap 2 = 2 := by decide
theorem wr3 : IntKind.i64.wrap 3 = 3 := by decide
theorem wr4 : IntKind.i64.wrap 4 = 4 := by decide
theorem wr6 : IntKind.i64.wrap 6 = 6 := by decide
theorem wr7 : IntKind.i64.wrap 7 = 7 := by decide
theorem wr8 : IntKind.i64.wrap 8 = 8 := by decide
attribute [local go_sem] wr0 wr1 wr2 wr3 wr4 wr6 wr7 wr8
theorem shr_run (c n : Nat) (y : Int) (hy : y = (n : Int)) (hn : n ≤ 64) (w : World) : Sem.run Try.prog (Op.shift .shr .i64 (c : Int) .i64 y) w = .ok (.int .i64 ((c : Int) / 2 ^ n)) w := by
  subst hy
  unfold Op.shift
  have h1 : ¬ (n : Int) < 0 := by omega
  have h2 : min ((n : Int)).toNat IntKind.i64.bits = n := by
    rw [Int.toNat_natCast]
    exact Nat.min_eq_left hn
  have h3 : (c : Int).fdiv (2 ^ n) = (c : Int) / 2 ^ n := Int.fdiv_eq_ediv_of_nonneg _ (Int.le_of_lt (Int.pow_pos (by decide)))
  simp only [h1, if_false, h2, h3]
  rfl
set_option maxHeartbeats 4000000 in
theorem l3Rel_1 (c : Nat) (w : World) : Calls Try.prog 51 #[.int .i64 1, .int .i64 c] w (GaveL w (codeR 1 c)) := by
  obtain ⟨i0, hi, hz0, hz1, hz2⟩ := info_parts Try.info3
  go_enter Try.func51, Try.ntmps51
  go_wp2
  go_loopw [5, 6] (fun v i wr => ∃ k : Nat, k ≤ 1 ∧ i = .int .i64 k ∧ wr.ownsRow w.heap.size 3 1 v k (((codeR 1 c).take k).map (Value.int .i64)) ∧ Below w.heap.size w wr)
    (fun _ i _ => 1 - (intOf i).toNat)
  case atStart => exact ⟨0, Nat.zero_le _, rfl, row_lit0 w, below_one _ _⟩
  case round =>
    obtain ⟨k, hk, rfl, ho, hb⟩ := hrel
    by_cases hlt : k < 1
    · have htk := codeR_take 1 c k hlt
      have HT := Lib.hid htk
      clear htk
      obtain rfl : k = 0 := by omega
      all_goals
        go_wp2
        go_region_law (refine step_append_own rfl (.tmp 13) (.tmp 23) 28 rfl w.heap.size 3 i0 (.int .i64 0) 1 8 Try.underlying28 hi hz0 hz1 hz2 rfl (by decide) _ _ _ rfl (ho.alloc _).drew ⟨wr.heap.size, 0, none⟩ 1 1 [_] rfl rfl (cell_one_new _ _ _) (by simp [Value.oneCell']) (by unfold maxLen; omega) (by omega) (by have := hb.size; simp; omega) ?_; intro v' w1 hown' hgrow)
        all_goals
          have hb' := own_step ho hb hb.size _ hgrow
          clear ho hb hgrow
          go_wp2
          go_roundw
          case rel =>
            first
              | (refine ⟨0 + 1, by omega, by first | rfl | go_num, ?_, hb'⟩; rw [HT.out, List.map_append]; simpa [codeW] using hown')
              | (refine ⟨1 + 1, by omega, by first | rfl | go_num, ?_, hb'⟩; rw [HT.out, List.map_append]; simpa [codeW] using hown')
              | (refine ⟨2 + 1, by omega, by first | rfl | go_num, ?_, hb'⟩; rw [HT.out, List.map_append]; simpa [codeW] using hown')
          case measure => simp [intOf]
    · obtain rfl : k = 1 := by omega
      rw [List.take_of_length_le (by rw [codeR_len]; exact Nat.le_refl _)] at ho
      go_wp2
      go_ret
      exact ⟨_, rfl, by rw [codeR_len]; exact ho, hb⟩
set_option maxHeartbeats 4000000 in
theorem l3Rel_2 (c : Nat) (w : World) : Calls Try.prog 51 #[.int .i64 2, .int .i64 c] w (GaveL w (codeR 2 c)) := by
  obtain ⟨i0, hi, hz0, hz1, hz2⟩ := info_parts Try.info3
  go_enter Try.func51, Try.ntmps51
  go_wp2
  go_loopw [5, 6] (fun v i wr => ∃ k : Nat, k ≤ 2 ∧ i = .int .i64 k ∧ wr.ownsRow w.heap.size 3 1 v k (((codeR 2 c).take k).map (Value.int .i64)) ∧ Below w.heap.size w wr)
    (fun _ i _ => 2 - (intOf i).toNat)
  case atStart => exact ⟨0, Nat.zero_le _, rfl, row_lit0 w, below_one _ _⟩
  case round =>
    obtain ⟨k, hk, rfl, ho, hb⟩ := hrel
    by_cases hlt : k < 2
    · have htk := codeR_take 2 c k hlt
      have HT := Lib.hid htk
      clear htk
      rcases (by omega : k = 0 ∨ k = 1) with rfl | rfl
      all_goals
        go_wp2
        go_region_law (refine step_append_own rfl (.tmp 13) (.tmp 23) 28 rfl w.heap.size 3 i0 (.int .i64 0) 1 8 Try.underlying28 hi hz0 hz1 hz2 rfl (by decide) _ _ _ rfl (ho.alloc _).drew ⟨wr.heap.size, 0, none⟩ 1 1 [_] rfl rfl (cell_one_new _ _ _) (by simp [Value.oneCell']) (by unfold maxLen; omega) (by omega) (by have := hb.size; simp; omega) ?_; intro v' w1 hown' hgrow)
        all_goals
          have hb' := own_step ho hb hb.size _ hgrow
          clear ho hb hgrow
          go_wp2
          go_roundw
          case rel =>
            first
              | (refine ⟨0 + 1, by omega, by first | rfl | go_num, ?_, hb'⟩; rw [HT.out, List.map_append]; simpa [codeW] using hown')
              | (refine ⟨1 + 1, by omega, by first | rfl | go_num, ?_, hb'⟩; rw [HT.out, List.map_append]; simpa [codeW] using hown')
              | (refine ⟨2 + 1, by omega, by first | rfl | go_num, ?_, hb'⟩; rw [HT.out, List.map_append]; simpa [codeW] using hown')
          case measure => simp [intOf]
    · obtain rfl : k = 2 := by omega
      rw [List.take_of_length_le (by rw [codeR_len]; exact Nat.le_refl _)] at ho
      go_wp2
      go_ret
      exact ⟨_, rfl, by rw [codeR_len]; exact ho, hb⟩
set_option maxHeartbeats 4000000 in
theorem l3Rel_3 (c : Nat) (w : World) : Calls Try.prog 51 #[.int .i64 3, .int .i64 c] w (GaveL w (codeR 3 c)) := by
  obtain ⟨i0, hi, hz0, hz1, hz2⟩ := info_parts Try.info3
  go_enter Try.func51, Try.ntmps51
  go_wp2
  go_loopw [5, 6] (fun v i wr => ∃ k : Nat, k ≤ 3 ∧ i = .int .i64 k ∧ wr.ownsRow w.heap.size 3 1 v k (((codeR 3 c).take k).map (Value.int .i64)) ∧ Below w.heap.size w wr)
    (fun _ i _ => 3 - (intOf i).toNat)
  case atStart => exact ⟨0, Nat.zero_le _, rfl, row_lit0 w, below_one _ _⟩
  case round =>
    obtain ⟨k, hk, rfl, ho, hb⟩ := hrel
    by_cases hlt : k < 3
    · have htk := codeR_take 3 c k hlt
      have HT := Lib.hid htk
      clear htk
      rcases (by omega : k = 0 ∨ k = 1 ∨ k = 2) with rfl | rfl | rfl
      all_goals
        go_wp2
        go_region_law (refine step_append_own rfl (.tmp 13) (.tmp 23) 28 rfl w.heap.size 3 i0 (.int .i64 0) 1 8 Try.underlying28 hi hz0 hz1 hz2 rfl (by decide) _ _ _ rfl (ho.alloc _).drew ⟨wr.heap.size, 0, none⟩ 1 1 [_] rfl rfl (cell_one_new _ _ _) (by simp [Value.oneCell']) (by unfold maxLen; omega) (by omega) (by have := hb.size; simp; omega) ?_; intro v' w1 hown' hgrow)
        all_goals
          have hb' := own_step ho hb hb.size _ hgrow
          clear ho hb hgrow
          go_wp2
          go_roundw
          case rel =>
            first
              | (refine ⟨0 + 1, by omega, by first | rfl | go_num, ?_, hb'⟩; rw [HT.out, List.map_append]; simpa [codeW] using hown')
              | (refine ⟨1 + 1, by omega, by first | rfl | go_num, ?_, hb'⟩; rw [HT.out, List.map_append]; simpa [codeW] using hown')
              | (refine ⟨2 + 1, by omega, by first | rfl | go_num, ?_, hb'⟩; rw [HT.out, List.map_append]; simpa [codeW] using hown')
          case measure => simp [intOf]
    · obtain rfl : k = 3 := by omega
      rw [List.take_of_length_le (by rw [codeR_len]; exact Nat.le_refl _)] at ho
      go_wp2
      go_ret
      exact ⟨_, rfl, by rw [codeR_len]; exact ho, hb⟩
theorem countC_next (m : Nat) (st : ByteArray) (c : Nat) : countC m st (List.range (c + 1)) = countC m st (List.range c) + if allK (codeR m c) st then 1 else 0 := by
  rw [List.range_succ]
  exact countC_snoc m st _ c
set_option maxHeartbeats 4000000 in
theorem specCount_1 (st : ByteArray) (L : Nat) (w : World) (hl2 : st.size ≤ 1048576) (ht : textTo st risat st.size = true) (hL : countC 1 st (List.range 2) = L) :
    Calls Try.prog 16 #[.int .i64 1, .string st] w fun e w' => e = .returned (.tuple #[.int .i64 (L : Nat), .bool true]) ∧ Below w.heap.size w w' := by
  have hr : risat.size ≤ 1048576 := by decide
  have h6 := fun W => l6In_any (1 : Int) 1 3 W
  have hin : inB (1 : Int) 1 3 = true := by decide
  rw [hin] at h6
  have H6 := Lib.hid h6
  have HT := Lib.hid ht
  have HL := Lib.hid hL
  clear h6 ht hin hL
  go_enter Try.func16, Try.ntmps16
  go_wp2_with fail
  refine (H6.out _).mono ?_
  rintro e w1 ⟨rfl, rfl⟩
  go_wp2_with fail
  refine (l3Letters_any _).mono ?_
  rintro e w2 ⟨rfl, rfl⟩
  go_wp2_with fail
  refine (l3Text_any st risat _ hl2 hr).mono ?_
  rw [HT.out]
  rintro e w2 ⟨rfl, hd2⟩
  have B2 := hd2.below w.heap.size
  clear hd2
  go_wp2
  go_loopw [6, 7] (fun n i wr => ∃ c : Nat, c ≤ 2 ∧ i = .int .i64 c ∧ n = .int .i64 (countC 1 st (List.range c) : Nat) ∧ Below w.heap.size w wr)
    (fun _ i _ => 2 - (intOf i).toNat)
  case atStart => exact ⟨0, Nat.zero_le _, rfl, rfl, B2⟩
  case round =>
    clear B2
    obtain ⟨c, hc, rfl, rfl, hB⟩ := hrel
    have hle := countC_le 1 st (List.range c)
    rw [List.length_range] at hle
    have hnx := countC_next 1 st c
    obtain ⟨q, hq⟩ : ∃ q, countC 1 st (List.range c) = q := ⟨_, rfl⟩
    rw [hq] at hle hnx
    rw [hq]
    have HN := Lib.hid hnx
    have HQ := Lib.hid hq
    clear hnx hq
    by_cases hlt : c < 2
    · have R : Rl 1 (codeR 1 c) := codeR_rl (by omega) (by omega) hlt
      have HR := Lib.hid R
      clear R
      go_wp2_with fail
      refine (l3Rel_1 c wr).mono ?_
      rintro e w3 ⟨v, rfl, ho, hb3⟩
      obtain ⟨g, qc, rfl, _, _, hrd⟩ := GaveL.form ho (Rl.pos HR.out)
      have hall := l3All_any HR.out.self st (some ⟨g, 0, none⟩) qc w3 hl2 (fun k hk => letters_of HT.out k hk) hrd
      have B3 := hB.trans (hb3.mono hB.size)
      clear ho hb3 hrd hB
      cases hk : allK (codeR 1 c) st with
      | true =>
        rw [hk] at hall HN
        have HA := Lib.hid hall
        clear hall hk
        go_wp2_with fail
        refine HA.out.mono ?_
        rintro e w4 ⟨rfl, hb4⟩
        go_wp2
        go_roundw
        case rel => exact ⟨c + 1, by omega, by go_num, by rw [HN.out]; rfl, B3.trans (hb4.mono B3.size)⟩
        case measure => simp [intOf]; omega
      | false =>
        rw [hk] at hall HN
        have HA := Lib.hid hall
        clear hall hk
        go_wp2_with fail
        refine HA.out.mono ?_
        rintro e w4 ⟨rfl, hb4⟩
        go_wp2
        go_roundw
        case rel => exact ⟨c + 1, by omega, by go_num, by rw [HN.out]; rfl, B3.trans (hb4.mono B3.size)⟩
        case measure => simp [intOf]; omega
    · have HE := Lib.hid (show q = L by rw [← HQ.out, ← HL.out, show c = 2 by omega])
      go_wp2
      go_ret2
      exact ⟨by rw [← HE.out]; rfl, hB⟩
set_option maxHeartbeats 4000000 in
theorem specCount_2 (st : ByteArray) (L : Nat) (w : World) (hl2 : st.size ≤ 1048576) (ht : textTo st risat st.size = true) (hL : countC 2 st (List.range 16) = L) :
    Calls Try.prog 16 #[.int .i64 2, .string st] w fun e w' => e = .returned (.tuple #[.int .i64 (L : Nat), .bool true]) ∧ Below w.heap.size w w' := by
  have hr : risat.size ≤ 1048576 := by decide
  have h6 := fun W => l6In_any (2 : Int) 1 3 W
  have hin : inB (2 : Int) 1 3 = true := by decide
  rw [hin] at h6
  have H6 := Lib.hid h6
  have HT := Lib.hid ht
  have HL := Lib.hid hL
  clear h6 ht hin hL
  go_enter Try.func16, Try.ntmps16
  go_wp2_with fail
  refine (H6.out _).mono ?_
  rintro e w1 ⟨rfl, rfl⟩
  go_wp2_with fail
  refine (l3Letters_any _).mono ?_
  rintro e w2 ⟨rfl, rfl⟩
  go_wp2_with fail
  refine (l3Text_any st risat _ hl2 hr).mono ?_
  rw [HT.out]
  rintro e w2 ⟨rfl, hd2⟩
  have B2 := hd2.below w.heap.size
  clear hd2
  go_wp2
  go_loopw [6, 7] (fun n i wr => ∃ c : Nat, c ≤ 16 ∧ i = .int .i64 c ∧ n = .int .i64 (countC 2 st (List.range c) : Nat) ∧ Below w.heap.size w wr)
    (fun _ i _ => 16 - (intOf i).toNat)
  case atStart => exact ⟨0, Nat.zero_le _, rfl, rfl, B2⟩
  case round =>
    clear B2
    obtain ⟨c, hc, rfl, rfl, hB⟩ := hrel
    have hle := countC_le 2 st (List.range c)
    rw [List.length_range] at hle
    have hnx := countC_next 2 st c
    obtain ⟨q, hq⟩ : ∃ q, countC 2 st (List.range c) = q := ⟨_, rfl⟩
    rw [hq] at hle hnx
    rw [hq]
    have HN := Lib.hid hnx
    have HQ := Lib.hid hq
    clear hnx hq
    by_cases hlt : c < 16
    · have R : Rl 2 (codeR 2 c) := codeR_rl (by omega) (by omega) hlt
      have HR := Lib.hid R
      clear R
      go_wp2_with fail
      refine (l3Rel_2 c wr).mono ?_
      rintro e w3 ⟨v, rfl, ho, hb3⟩
      obtain ⟨g, qc, rfl, _, _, hrd⟩ := GaveL.form ho (Rl.pos HR.out)
      have hall := l3All_any HR.out.self st (some ⟨g, 0, none⟩) qc w3 hl2 (fun k hk => letters_of HT.out k hk) hrd
      have B3 := hB.trans (hb3.mono hB.size)
      clear ho hb3 hrd hB
      cases hk : allK (codeR 2 c) st with
      | true =>
        rw [hk] at hall HN
        have HA := Lib.hid hall
        clear hall hk
        go_wp2_with fail
        refine HA.out.mono ?_
        rintro e w4 ⟨rfl, hb4⟩
        go_wp2
        go_roundw
        case rel => exact ⟨c + 1, by omega, by go_num, by rw [HN.out]; rfl, B3.trans (hb4.mono B3.size)⟩
        case measure => simp [intOf]; omega
      | false =>
        rw [hk] at hall HN
        have HA := Lib.hid hall
        clear hall hk
        go_wp2_with fail
        refine HA.out.mono ?_
        rintro e w4 ⟨rfl, hb4⟩
        go_wp2
        go_roundw
        case rel => exact ⟨c + 1, by omega, by go_num, by rw [HN.out]; rfl, B3.trans (hb4.mono B3.size)⟩
        case measure => simp [intOf]; omega
    · have HE := Lib.hid (show q = L by rw [← HQ.out, ← HL.out, show c = 16 by omega])
      go_wp2
      go_ret2
      exact ⟨by rw [← HE.out]; rfl, hB⟩
set_option maxRecDepth 100000 in
set_option maxHeartbeats 4000000 in
theorem specCount_3 (st : ByteArray) (L : Nat) (w : World) (hl2 : st.size ≤ 1048576) (ht : textTo st risat st.size = true) (hL : countC 3 st (List.range 512) = L) :
    Calls Try.prog 16 #[.int .i64 3, .string st] w fun e w' => e = .returned (.tuple #[.int .i64 (L : Nat), .bool true]) ∧ Below w.heap.size w w' := by
  have hr : risat.size ≤ 1048576 := by decide
  have h6 := fun W => l6In_any (3 : Int) 1 3 W
  have hin : inB (3 : Int) 1 3 = true := by decide
  rw [hin] at h6
  have H6 := Lib.hid h6
  have HT := Lib.hid ht
  have HL := Lib.hid hL
  clear h6 ht hin hL
  go_enter Try.func16, Try.ntmps16
  go_wp2_with fail
  refine (H6.out _).mono ?_
  rintro e w1 ⟨rfl, rfl⟩
  go_wp2_with fail
  refine (l3Letters_any _).mono ?_
  rintro e w2 ⟨rfl, rfl⟩
  go_wp2_with fail
  refine (l3Text_any st risat _ hl2 hr).mono ?_
  rw [HT.out]
  rintro e w2 ⟨rfl, hd2⟩
  have B2 := hd2.below w.heap.size
  clear hd2
  go_wp2
  go_loopw [6, 7] (fun n i wr => ∃ c : Nat, c ≤ 512 ∧ i = .int .i64 c ∧ n = .int .i64 (countC 3 st (List.range c) : Nat) ∧ Below w.heap.size w wr)
    (fun _ i _ => 512 - (intOf i).toNat)
  case atStart => exact ⟨0, Nat.zero_le _, rfl, rfl, B2⟩
  case round =>
    clear B2
    obtain ⟨c, hc, rfl, rfl, hB⟩ := hrel
    have hle := countC_le 3 st (List.range c)
    rw [List.length_range] at hle
    have hnx := countC_next 3 st c
    obtain ⟨q, hq⟩ : ∃ q, countC 3 st (List.range c) = q := ⟨_, rfl⟩
    rw [hq] at hle hnx
    rw [hq]
    have HN := Lib.hid hnx
    have HQ := Lib.hid hq
    clear hnx hq
    by_cases hlt : c < 512
    · have R : Rl 3 (codeR 3 c) := codeR_rl (by omega) (by omega) hlt
      have HR := Lib.hid R
      clear R
      go_wp2_with fail
      refine (l3Rel_3 c wr).mono ?_
      rintro e w3 ⟨v, rfl, ho, hb3⟩
      obtain ⟨g, qc, rfl, _, _, hrd⟩ := GaveL.form ho (Rl.pos HR.out)
      have hall := l3All_any HR.out.self st (some ⟨g, 0, none⟩) qc w3 hl2 (fun k hk => letters_of HT.out k hk) hrd
      have B3 := hB.trans (hb3.mono hB.size)
      clear ho hb3 hrd hB
      cases hk : allK (codeR 3 c) st with
      | true =>
        rw [hk] at hall HN
        have HA := Lib.hid hall
        clear hall hk
        go_wp2_with fail
        refine HA.out.mono ?_
        rintro e w4 ⟨rfl, hb4⟩
        go_wp2
        go_roundw
        case rel => exact ⟨c + 1, by omega, by go_num, by rw [HN.out]; rfl, B3.trans (hb4.mono B3.size)⟩
        case measure => simp [intOf]; omega
      | false =>
        rw [hk] at hall HN
        have HA := Lib.hid hall
        clear hall hk
        go_wp2_with fail
        refine HA.out.mono ?_
        rintro e w4 ⟨rfl, hb4⟩
        go_wp2
        go_roundw
        case rel => exact ⟨c + 1, by omega, by go_num, by rw [HN.out]; rfl, B3.trans (hb4.mono B3.size)⟩
        case measure => simp [intOf]; omega
    · have HE := Lib.hid (show q = L by rw [← HQ.out, ← HL.out, show c = 512 by omega])
      go_wp2
      go_ret2
      exact ⟨by rw [← HE.out]; rfl, hB⟩
set_option maxHeartbeats 4000000 in
theorem specCount_no (n : Int) (st : ByteArray) (w : World) (hl2 : st.size ≤ 1048576) (hno : countB n st = false) :
    Calls Try.prog 16 #[.int .i64 n, .string st] w fun e w' => e = .returned (.tuple #[.int .i64 0, .bool false]) ∧ Below w.heap.size w w' := by
  have hr : risat.size ≤ 1048576 := by decide
  have h6 := fun W => l6In_any n 1 3 W
  unfold countB at hno
  cases hin : inB n 1 3 with
  | false =>
    rw [hin] at h6
    have H6 := Lib.hid h6
    clear h6 hin hno
    go_enter Try.func16, Try.ntmps16
    go_wp2_with (go_at_call 48; refine (H6.out _).mono ?_; rintro e w1 ⟨rfl, rfl⟩)
    go_ret2
    exact ⟨rfl, Below.refl _ _⟩
  | true =>
    have ht : textTo st risat st.size = false := by rw [hin] at hno; simpa using hno
    rw [hin] at h6
    have H6 := Lib.hid h6
    have HT := Lib.hid ht
    clear h6 hin hno ht
    go_enter Try.func16, Try.ntmps16
    go_wp2_with fail
    refine (H6.out _).mono ?_
    rintro e w1 ⟨rfl, rfl⟩
    go_wp2_with fail
    refine (l3Letters_any _).mono ?_
    rintro e w2 ⟨rfl, rfl⟩
    go_wp2_with fail
    refine (l3Text_any st risat _ hl2 hr).mono ?_
    rw [HT.out]
    rintro e w2 ⟨rfl, hd2⟩
    go_wp2
    go_ret2
    exact ⟨rfl, hd2.below _⟩
theorem count_cases {n : Int} {st : ByteArray} (h : countB n st = true) : (n = 1 ∨ n = 2 ∨ n = 3) ∧ textTo st risat st.size = true := by
  unfold countB at h
  rw [Bool.and_eq_true] at h
  have h1 : 1 ≤ n ∧ n ≤ 3 := of_decide_eq_true h.1
  exact ⟨by omega, h.2⟩
theorem countR_1 {st : ByteArray} (h : countB 1 st = true) : countR 1 st = (countC 1 st (List.range 2) : Nat) := by unfold countR; rw [if_pos h, show ((1 : Int).toNat) = 1 from rfl, show 2 ^ (1 * 1) = 2 from rfl]
theorem countR_2 {st : ByteArray} (h : countB 2 st = true) : countR 2 st = (countC 2 st (List.range 16) : Nat) := by unfold countR; rw [if_pos h, show ((2 : Int).toNat) = 2 from rfl, show 2 ^ (2 * 2) = 16 from rfl]
theorem countR_3 {st : ByteArray} (h : countB 3 st = true) : countR 3 st = (countC 3 st (List.range 512) : Nat) := by unfold countR; rw [if_pos h, show ((3 : Int).toNat) = 3 from rfl, show 2 ^ (3 * 3) = 512 from rfl]
theorem specKindCount_any (n : Int) (st : ByteArray) (w : World) (hl2 : st.size ≤ 1048576) :
    Calls Try.prog 16 #[.int .i64 n, .string st] w fun e w' => e = .returned (.tuple #[.int .i64 (countR n st), .bool (countB n st)]) ∧ Below w.heap.size w w' := by
  cases hb : countB n st with
  | false =>
    have e : countR n st = 0 := by unfold countR; rw [if_neg (by rw [hb]; simp)]
    rw [e]
    exact specCount_no n st w hl2 hb
  | true =>
    obtain ⟨h, ht⟩ := count_cases hb
    rcases h with rfl | rfl | rfl
    · rw [countR_1 hb]; exact specCount_1 st _ w hl2 ht rfl
    · rw [countR_2 hb]; exact specCount_2 st _ w hl2 ht rfl
    · rw [countR_3 hb]; exact specCount_3 st _ w hl2 ht rfl
end Go.Proofs.Ytonmjcfkanldcaa

namespace Go.Proofs.Ytonmjcfkanldcaa
open Go.RowKit Go.Shelf
theorem wr9 : IntKind.i64.wrap 9 = 9 := by decide
theorem wr16 : IntKind.i64.wrap 16 = 16 := by decide
theorem wr512 : IntKind.i64.wrap 512 = 512 := by decide
attribute [local go_sem] Oper.semAt_some wr0 wr1 wr2 wr3 wr4 wr6 wr7 wr8 wr9 wr16 wr512

theorem relationsOn_any (n : Int) (w : World) : Calls Try.prog 46 #[.int .i64 n] w fun e w' => e = .returned (.func (.func 91) #[] #[.pointer (some ⟨w.heap.size, 0, none⟩)]) ∧ w.alloc (.cells #[.int .i64 n] 3) = w' := by
  have hmf : ∀ (fn : Fn) (first cap : Array Value) (w : World), Sem.run Try.prog (Instr.makeFunc fn first cap) w = .ok (.func fn first cap) w := fun _ _ _ _ => rfl
  go_enter Try.func46, Try.ntmps46
  go_wp2
  go_ret
  exact ⟨rfl, rfl⟩
theorem points_still (m : Nat) (h1 : 1 ≤ m) (h3 : m ≤ 4) (w : World) : Calls Try.prog 92 #[.int .i64 m] w fun e w' => e = .returned (.int .i64 ((2 ^ m - 1 : Nat) : Int)) ∧ w' = w :=
  (allPoints_any m h1 h3 w).mono fun _ _ h => ⟨h.1, h.2.symm⟩
/-- calls within the wide fence -/
theorem wide_calls {P : Program} {n : Nat} : ∀ f args w R, Calls P f args w R → (Fence.wide.depth.isSome = true → 1 ≤ n) ∧ CallsIn Fence.wide (n - 1) P f args w R :=
  fun _ _ _ _ h => ⟨(fun h => Bool.noConfusion h), callsIn_wide.2 h⟩
/-- the first k rows of the relation that a number tells, the others being empty -/
def codeTo (m c k : Nat) : List Int := (codeR m c).take k ++ List.replicate (m - k) 0
abbrev encC (N m : Nat) (c : Nat) : Array Value := #[relOf (codeR m (c % N))]
theorem codeTo_len (m c k : Nat) (hk : k ≤ m) : (codeTo m c k).length = m := by
  unfold codeTo
  rw [List.length_append, List.length_take, codeR_len, List.length_replicate]
  omega
theorem codeTo_step (m c k : Nat) (hk : k < m) : (codeTo m c k).set k (codeW m c k) = codeTo m c (k + 1) := by
  unfold codeTo
  have hl : ((codeR m c).take k).length = k := by rw [List.length_take, codeR_len]; omega
  rw [List.set_append_right _ _ (by omega), hl, Nat.sub_self, codeR_take m c k hk, show m - k = (m - (k + 1)) + 1 by omega, List.replicate_succ, List.set_cons_zero, List.append_assoc]
  rfl
theorem codeTo_end (m c : Nat) : codeTo m c m = codeR m c := by
  unfold codeTo
  rw [Nat.sub_self, List.replicate_zero, List.append_nil, List.take_of_length_le (by rw [codeR_len]; exact Nat.le_refl _)]
theorem codeTo_at {m c k b j : Nat} {w : World} {v : Int} (hz : RelAt w b (codeTo m c k)) (hk : k < m) (h4 : k < 4) (hj : j = 1 + k) (hv : v = codeW m c k) : RelAt (w.setCell ⟨b, j, none⟩ (.int .i64 v)).drew b (codeTo m c (k + 1)) := by
  subst hj
  subst hv
  have h := hz.set k (by rw [codeTo_len m c k (by omega)]; exact hk) h4 (codeW m c k)
  rw [codeTo_step m c k hk] at h
  exact h
theorem grown_of_below {w w' : World} (h : Below w.heap.size w w') : w.grownBy w' none :=
  ⟨h.os, h.tape, h.output, h.size, fun k hk _ => h.block k hk⟩
theorem abides_below {β : Type} {B : Nat} {J : β → World → Prop} (hJ : AbidesFrom B J) {s : β} {w w' : World} (hs : J s w) (h : Below w.heap.size w w') : J s w' :=
  hJ s w w' none hs (grown_of_below h) (fun _ e => by cases e)
theorem range_snoc (c : Nat) : List.range (c + 1) = List.range c ++ [c] := List.range_succ


set_option maxRecDepth 100000 in
set_option maxHeartbeats 8000000 in
theorem rels1_in1 (n : Nat) (_hn : 1 ≤ n) (l B : Nat) (J Jx : List Nat → World → Prop) (W0 : World) (hJ : AbidesFrom W0.heap.size J)
    (hY : ∀ pre x W, J pre W → pre.length < 2 → YieldAt Fence.wide (n - 1) Try.prog l (encC 2 1 x) W fun e W' =>
      (e = .returned (.bool true) ∧ J (pre ++ [x]) W' ∧ KeepB B W W') ∨ (e = .returned (.bool false) ∧ Jx (pre ++ [x]) W'))
    (W : World) (hr : Boxed W B 3 (.int .i64 1)) (h0 : J [] W) (ns : List Nat) (hns : ns = List.range 2) :
    CallsIn Fence.wide n Try.prog 91 #[.func (.yield l) #[] #[], .pointer (some ⟨B, 0, none⟩)] W fun e W' => (∃ v, e = .returned v) ∧
      ((∃ ys, ys = ns ∧ J ys W') ∨ (∃ pre, True ∧ Jx pre W')) := by
  have HN := Lib.hid hns
  clear hns
  refine callsIn_of_wp Try.func91 rfl trivial ?_ rfl
  simp only [Try.ntmps91, List.size_toArray, List.length_cons, List.length_nil, Nat.reduceAdd, Nat.reduceSub, Array.replicate_succ, Array.replicate_zero, List.push_toArray, List.append_toArray, List.nil_append, List.cons_append]
  have hc0 := hr.cell
  have hmo : Try.prog.follows .mixedOrders = true := by kernel_rfl
  gi_wp2
  gi_loopw [10, 3, 4] (fun i _ _ wr => ∃ c : Nat, c ≤ 2 ∧ i = .int .i64 c ∧ J (List.range c) wr ∧ Boxed wr B 3 (.int .i64 1))
    (fun i _ _ _ => 2 - (intOf i).toNat)
  case atStart => exact ⟨0, Nat.zero_le _, rfl, h0, hr⟩
  case round =>
    clear hc0 hr h0
    obtain ⟨c, hc, rfl, hJs, hr⟩ := hrel
    have hc0 := hr.cell
    obtain ⟨wo, rfl⟩ : ∃ wo : World, wo = wr := ⟨_, rfl⟩
    by_cases hlt : c < 2
    · have hi1 : (c : Int) < 2 := by omega
      have z1 := zero_new wo 1
      have b1 := hr.alloc (.cells #[.int .i64 1, .int .i64 0, .int .i64 0, .int .i64 0, .int .i64 0] 58)
      have B1 := below_one wo (.cells #[.int .i64 1, .int .i64 0, .int .i64 0, .int .i64 0, .int .i64 0] 58)
      have hc1 := b1.cell
      have hbl := hr.lt
      have HJ := Lib.hid hJs
      clear hJs
      gi_wp2
      gi_loopw [16, 5] (fun j _ wr => ∃ k : Nat, k ≤ 1 ∧ j = .int .i64 k ∧ RelAt wr wo.heap.size (codeTo 1 c k) ∧ Boxed wr B 3 (.int .i64 1) ∧ Below wo.heap.size wo wr)
        (fun j _ _ => 1 - (intOf j).toNat)
      case atStart => exact ⟨0, Nat.zero_le _, rfl, z1, b1, B1⟩
      case round =>
        clear z1 b1 B1 hc1 hc0
        obtain ⟨k, hk, rfl, hz, hb, hB⟩ := hrel
        have hc0 := hb.cell
        by_cases hlj : k < 1
        · obtain rfl : k = 0 := by omega
          all_goals
            have f1 := hz.free 1
            have e1 := hz.cell1
            gi_wp2
            refine wpIn_region_loads_then 11 (by assumption) (by kernel_rfl) (fun _ => trivial) wide_calls rfl ?_
            simp only [List.take_succ_cons, List.take_zero, List.drop_succ_cons, List.drop_zero]
            repeat still_step
            still_call (points_still 1 (by omega) (by omega) _)
            repeat still_step
            refine wpStill_nil ?_
            gi_wp2
            go_roundw
            case rel =>
              first
                | exact ⟨0 + 1, by omega, by first | rfl | go_num, codeTo_at hz (by omega) (by omega) rfl (by simp [codeW]), (Below.heap_setCell wr ⟨wo.heap.size, 1, none⟩ _ B (Nat.ne_of_lt hbl)).trans hb, (hB.setCell (p := ⟨wo.heap.size, 1, none⟩) (Nat.le_refl _) _).drew⟩
            case measure => simp [intOf]
        · obtain rfl : k = 1 := by omega
          rw [codeTo_end] at hz
          have hJ2 := abides_below hJ HJ.out hB
          have p0 := hz.cell0
          have p1 := hz.cell1
          have p2 := hz.cell2
          have p3 := hz.cell3
          have p4 := hz.cell4
          obtain ⟨fn, tmps, assign, body, hy, hR⟩ := hY _ c wr hJ2 (by rw [List.length_range]; exact hlt)
          dsimp only [encC] at hy
          rw [Nat.mod_eq_of_lt hlt] at hy
          have HJ2 := Lib.hid hJ2
          clear hJ2
          gi_wp2
          refine hR.mono ?_
          rintro e W3 (⟨rfl, hJ3, hk3⟩ | ⟨rfl, hJx3⟩)
          · have hr3 : Boxed W3 B 3 (.int .i64 1) := Eq.trans hk3 hb
            rw [← range_snoc] at hJ3
            clear hr hb hc0 hz p0 p1 p2 p3 p4
            have hc0 := hr3.cell
            have HJ3 := Lib.hid hJ3
            clear hJ3
            gi_wp2
            go_roundw
            case rel => exact ⟨c + 1, by omega, by go_num, HJ3.out, hr3⟩
            case measure => simp [intOf]; omega
          · gi_wp2
            refine bodyPost_ret (results_none rfl _ _ _) rfl ?_
            exact ⟨⟨_, rfl⟩, .inr ⟨_, trivial, hJx3⟩⟩
    · obtain rfl : c = 2 := by omega
      rw [← HN.out] at hJs
      have HJ := Lib.hid hJs
      clear hJs
      gi_wp2
      go_end0
      exact ⟨⟨_, rfl⟩, .inl ⟨_, rfl, HJ.out⟩⟩

set_option maxRecDepth 100000 in
set_option maxHeartbeats 8000000 in
theorem rels1_in2 (n : Nat) (_hn : 1 ≤ n) (l B : Nat) (J Jx : List Nat → World → Prop) (W0 : World) (hJ : AbidesFrom W0.heap.size J)
    (hY : ∀ pre x W, J pre W → pre.length < 16 → YieldAt Fence.wide (n - 1) Try.prog l (encC 16 2 x) W fun e W' =>
      (e = .returned (.bool true) ∧ J (pre ++ [x]) W' ∧ KeepB B W W') ∨ (e = .returned (.bool false) ∧ Jx (pre ++ [x]) W'))
    (W : World) (hr : Boxed W B 3 (.int .i64 2)) (h0 : J [] W) (ns : List Nat) (hns : ns = List.range 16) :
    CallsIn Fence.wide n Try.prog 91 #[.func (.yield l) #[] #[], .pointer (some ⟨B, 0, none⟩)] W fun e W' => (∃ v, e = .returned v) ∧
      ((∃ ys, ys = ns ∧ J ys W') ∨ (∃ pre, True ∧ Jx pre W')) := by
  have HN := Lib.hid hns
  clear hns
  refine callsIn_of_wp Try.func91 rfl trivial ?_ rfl
  simp only [Try.ntmps91, List.size_toArray, List.length_cons, List.length_nil, Nat.reduceAdd, Nat.reduceSub, Array.replicate_succ, Array.replicate_zero, List.push_toArray, List.append_toArray, List.nil_append, List.cons_append]
  have hc0 := hr.cell
  have hmo : Try.prog.follows .mixedOrders = true := by kernel_rfl
  gi_wp2
  gi_loopw [10, 3, 4] (fun i _ _ wr => ∃ c : Nat, c ≤ 16 ∧ i = .int .i64 c ∧ J (List.range c) wr ∧ Boxed wr B 3 (.int .i64 2))
    (fun i _ _ _ => 16 - (intOf i).toNat)
  case atStart => exact ⟨0, Nat.zero_le _, rfl, h0, hr⟩
  case round =>
    clear hc0 hr h0
    obtain ⟨c, hc, rfl, hJs, hr⟩ := hrel
    have hc0 := hr.cell
    obtain ⟨wo, rfl⟩ : ∃ wo : World, wo = wr := ⟨_, rfl⟩
    by_cases hlt : c < 16
    · have hi1 : (c : Int) < 16 := by omega
      have z1 := zero_new wo 2
      have b1 := hr.alloc (.cells #[.int .i64 2, .int .i64 0, .int .i64 0, .int .i64 0, .int .i64 0] 58)
      have B1 := below_one wo (.cells #[.int .i64 2, .int .i64 0, .int .i64 0, .int .i64 0, .int .i64 0] 58)
      have hc1 := b1.cell
      have hbl := hr.lt
      have HJ := Lib.hid hJs
      clear hJs
      gi_wp2
      gi_loopw [16, 5] (fun j _ wr => ∃ k : Nat, k ≤ 2 ∧ j = .int .i64 k ∧ RelAt wr wo.heap.size (codeTo 2 c k) ∧ Boxed wr B 3 (.int .i64 2) ∧ Below wo.heap.size wo wr)
        (fun j _ _ => 2 - (intOf j).toNat)
      case atStart => exact ⟨0, Nat.zero_le _, rfl, z1, b1, B1⟩
      case round =>
        clear z1 b1 B1 hc1 hc0
        obtain ⟨k, hk, rfl, hz, hb, hB⟩ := hrel
        have hc0 := hb.cell
        by_cases hlj : k < 2
        · rcases (by omega : k = 0 ∨ k = 1) with rfl | rfl
          all_goals
            have f1 := hz.free 1
            have e1 := hz.cell1
            have f2 := hz.free 2
            have e2 := hz.cell2
            gi_wp2
            refine wpIn_region_loads_then 11 (by assumption) (by kernel_rfl) (fun _ => trivial) wide_calls rfl ?_
            simp only [List.take_succ_cons, List.take_zero, List.drop_succ_cons, List.drop_zero]
            repeat still_step
            still_call (points_still 2 (by omega) (by omega) _)
            repeat still_step
            refine wpStill_nil ?_
            gi_wp2
            go_roundw
            case rel =>
              first
                | exact ⟨0 + 1, by omega, by first | rfl | go_num, codeTo_at hz (by omega) (by omega) rfl (by simp [codeW]), (Below.heap_setCell wr ⟨wo.heap.size, 1, none⟩ _ B (Nat.ne_of_lt hbl)).trans hb, (hB.setCell (p := ⟨wo.heap.size, 1, none⟩) (Nat.le_refl _) _).drew⟩
                | exact ⟨1 + 1, by omega, by first | rfl | go_num, codeTo_at hz (by omega) (by omega) rfl (by simp [codeW]), (Below.heap_setCell wr ⟨wo.heap.size, 2, none⟩ _ B (Nat.ne_of_lt hbl)).trans hb, (hB.setCell (p := ⟨wo.heap.size, 2, none⟩) (Nat.le_refl _) _).drew⟩
            case measure => simp [intOf]
        · obtain rfl : k = 2 := by omega
          rw [codeTo_end] at hz
          have hJ2 := abides_below hJ HJ.out hB
          have p0 := hz.cell0
          have p1 := hz.cell1
          have p2 := hz.cell2
          have p3 := hz.cell3
          have p4 := hz.cell4
          obtain ⟨fn, tmps, assign, body, hy, hR⟩ := hY _ c wr hJ2 (by rw [List.length_range]; exact hlt)
          dsimp only [encC] at hy
          rw [Nat.mod_eq_of_lt hlt] at hy
          have HJ2 := Lib.hid hJ2
          clear hJ2
          gi_wp2
          refine hR.mono ?_
          rintro e W3 (⟨rfl, hJ3, hk3⟩ | ⟨rfl, hJx3⟩)
          · have hr3 : Boxed W3 B 3 (.int .i64 2) := Eq.trans hk3 hb
            rw [← range_snoc] at hJ3
            clear hr hb hc0 hz p0 p1 p2 p3 p4
            have hc0 := hr3.cell
            have HJ3 := Lib.hid hJ3
            clear hJ3
            gi_wp2
            go_roundw
            case rel => exact ⟨c + 1, by omega, by go_num, HJ3.out, hr3⟩
            case measure => simp [intOf]; omega
          · gi_wp2
            refine bodyPost_ret (results_none rfl _ _ _) rfl ?_
            exact ⟨⟨_, rfl⟩, .inr ⟨_, trivial, hJx3⟩⟩
    · obtain rfl : c = 16 := by omega
      rw [← HN.out] at hJs
      have HJ := Lib.hid hJs
      clear hJs
      gi_wp2
      go_end0
      exact ⟨⟨_, rfl⟩, .inl ⟨_, rfl, HJ.out⟩⟩

set_option maxRecDepth 100000 in
set_option maxHeartbeats 8000000 in
theorem rels1_in3 (n : Nat) (_hn : 1 ≤ n) (l B : Nat) (J Jx : List Nat → World → Prop) (W0 : World) (hJ : AbidesFrom W0.heap.size J)
    (hY : ∀ pre x W, J pre W → pre.length < 512 → YieldAt Fence.wide (n - 1) Try.prog l (encC 512 3 x) W fun e W' =>
      (e = .returned (.bool true) ∧ J (pre ++ [x]) W' ∧ KeepB B W W') ∨ (e = .returned (.bool false) ∧ Jx (pre ++ [x]) W'))
    (W : World) (hr : Boxed W B 3 (.int .i64 3)) (h0 : J [] W) (ns : List Nat) (hns : ns = List.range 512) :
    CallsIn Fence.wide n Try.prog 91 #[.func (.yield l) #[] #[], .pointer (some ⟨B, 0, none⟩)] W fun e W' => (∃ v, e = .returned v) ∧
      ((∃ ys, ys = ns ∧ J ys W') ∨ (∃ pre, True ∧ Jx pre W')) := by
  have HN := Lib.hid hns
  clear hns
  refine callsIn_of_wp Try.func91 rfl trivial ?_ rfl
  simp only [Try.ntmps91, List.size_toArray, List.length_cons, List.length_nil, Nat.reduceAdd, Nat.reduceSub, Array.replicate_succ, Array.replicate_zero, List.push_toArray, List.append_toArray, List.nil_append, List.cons_append]
  have hc0 := hr.cell
  have hmo : Try.prog.follows .mixedOrders = true := by kernel_rfl
  gi_wp2
  gi_loopw [10, 3, 4] (fun i _ _ wr => ∃ c : Nat, c ≤ 512 ∧ i = .int .i64 c ∧ J (List.range c) wr ∧ Boxed wr B 3 (.int .i64 3))
    (fun i _ _ _ => 512 - (intOf i).toNat)
  case atStart => exact ⟨0, Nat.zero_le _, rfl, h0, hr⟩
  case round =>
    clear hc0 hr h0
    obtain ⟨c, hc, rfl, hJs, hr⟩ := hrel
    have hc0 := hr.cell
    obtain ⟨wo, rfl⟩ : ∃ wo : World, wo = wr := ⟨_, rfl⟩
    by_cases hlt : c < 512
    · have hi1 : (c : Int) < 512 := by omega
      have z1 := zero_new wo 3
      have b1 := hr.alloc (.cells #[.int .i64 3, .int .i64 0, .int .i64 0, .int .i64 0, .int .i64 0] 58)
      have B1 := below_one wo (.cells #[.int .i64 3, .int .i64 0, .int .i64 0, .int .i64 0, .int .i64 0] 58)
      have hc1 := b1.cell
      have hbl := hr.lt
      have HJ := Lib.hid hJs
      clear hJs
      gi_wp2
      gi_loopw [16, 5] (fun j _ wr => ∃ k : Nat, k ≤ 3 ∧ j = .int .i64 k ∧ RelAt wr wo.heap.size (codeTo 3 c k) ∧ Boxed wr B 3 (.int .i64 3) ∧ Below wo.heap.size wo wr)
        (fun j _ _ => 3 - (intOf j).toNat)
      case atStart => exact ⟨0, Nat.zero_le _, rfl, z1, b1, B1⟩
      case round =>
        clear z1 b1 B1 hc1 hc0
        obtain ⟨k, hk, rfl, hz, hb, hB⟩ := hrel
        have hc0 := hb.cell
        by_cases hlj : k < 3
        · rcases (by omega : k = 0 ∨ k = 1 ∨ k = 2) with rfl | rfl | rfl
          all_goals
            have f1 := hz.free 1
            have e1 := hz.cell1
            have f2 := hz.free 2
            have e2 := hz.cell2
            have f3 := hz.free 3
            have e3 := hz.cell3
            gi_wp2
            refine wpIn_region_loads_then 11 (by assumption) (by kernel_rfl) (fun _ => trivial) wide_calls rfl ?_
            simp only [List.take_succ_cons, List.take_zero, List.drop_succ_cons, List.drop_zero]
            repeat still_step
            still_call (points_still 3 (by omega) (by omega) _)
            repeat still_step
            refine wpStill_nil ?_
            gi_wp2
            go_roundw
            case rel =>
              first
                | exact ⟨0 + 1, by omega, by first | rfl | go_num, codeTo_at hz (by omega) (by omega) rfl (by simp [codeW]), (Below.heap_setCell wr ⟨wo.heap.size, 1, none⟩ _ B (Nat.ne_of_lt hbl)).trans hb, (hB.setCell (p := ⟨wo.heap.size, 1, none⟩) (Nat.le_refl _) _).drew⟩
                | exact ⟨1 + 1, by omega, by first | rfl | go_num, codeTo_at hz (by omega) (by omega) rfl (by simp [codeW]), (Below.heap_setCell wr ⟨wo.heap.size, 2, none⟩ _ B (Nat.ne_of_lt hbl)).trans hb, (hB.setCell (p := ⟨wo.heap.size, 2, none⟩) (Nat.le_refl _) _).drew⟩
                | exact ⟨2 + 1, by omega, by first | rfl | go_num, codeTo_at hz (by omega) (by omega) rfl (by simp [codeW]), (Below.heap_setCell wr ⟨wo.heap.size, 3, none⟩ _ B (Nat.ne_of_lt hbl)).trans hb, (hB.setCell (p := ⟨wo.heap.size, 3, none⟩) (Nat.le_refl _) _).drew⟩
            case measure => simp [intOf]
        · obtain rfl : k = 3 := by omega
          rw [codeTo_end] at hz
          have hJ2 := abides_below hJ HJ.out hB
          have p0 := hz.cell0
          have p1 := hz.cell1
          have p2 := hz.cell2
          have p3 := hz.cell3
          have p4 := hz.cell4
          obtain ⟨fn, tmps, assign, body, hy, hR⟩ := hY _ c wr hJ2 (by rw [List.length_range]; exact hlt)
          dsimp only [encC] at hy
          rw [Nat.mod_eq_of_lt hlt] at hy
          have HJ2 := Lib.hid hJ2
          clear hJ2
          gi_wp2
          refine hR.mono ?_
          rintro e W3 (⟨rfl, hJ3, hk3⟩ | ⟨rfl, hJx3⟩)
          · have hr3 : Boxed W3 B 3 (.int .i64 3) := Eq.trans hk3 hb
            rw [← range_snoc] at hJ3
            clear hr hb hc0 hz p0 p1 p2 p3 p4
            have hc0 := hr3.cell
            have HJ3 := Lib.hid hJ3
            clear hJ3
            gi_wp2
            go_roundw
            case rel => exact ⟨c + 1, by omega, by go_num, HJ3.out, hr3⟩
            case measure => simp [intOf]; omega
          · gi_wp2
            refine bodyPost_ret (results_none rfl _ _ _) rfl ?_
            exact ⟨⟨_, rfl⟩, .inr ⟨_, trivial, hJx3⟩⟩
    · obtain rfl : c = 512 := by omega
      rw [← HN.out] at hJs
      have HJ := Lib.hid hJs
      clear hJs
      gi_wp2
      go_end0
      exact ⟨⟨_, rfl⟩, .inl ⟨_, rfl, HJ.out⟩⟩
end Go.Proofs.Ytonmjcfkanldcaa

namespace Go.Proofs.Ytonmjcfkanldcaa
open Go.RowKit Go.Shelf
attribute [local go_sem] Oper.semAt_some

theorem rels_stops (m N : Nat) (h1 : 1 ≤ m) (h3 : m ≤ 3) (hN : N = 2 ^ (m * m)) (n : Nat) (hn : 1 ≤ n) (B : Nat) (w : World) (hr : Boxed w B 3 (.int .i64 m)) :
    SeqStopsK Fence.wide n Try.prog 91 #[.pointer (some ⟨B, 0, none⟩)] (encC N m) (KeepB B) (fun ys => ys = List.range N) (fun _ => True) N w := by
  rcases (by omega : m = 1 ∨ m = 2 ∨ m = 3) with rfl | rfl | rfl
  · obtain rfl : N = 2 := hN
    exact fun l J Jx W hW hJ _ hY h0 => rels1_in1 n hn l B J Jx W hJ hY W ((hW.block B hr.lt).trans hr) h0 _ rfl
  · obtain rfl : N = 16 := hN
    exact fun l J Jx W hW hJ _ hY h0 => rels1_in2 n hn l B J Jx W hJ hY W ((hW.block B hr.lt).trans hr) h0 _ rfl
  · obtain rfl : N = 512 := hN
    exact fun l J Jx W hW hJ _ hY h0 => rels1_in3 n hn l B J Jx W hJ hY W ((hW.block B hr.lt).trans hr) h0 _ rfl

/-- how many of those of all kinds have come -/
def cntM (N m : Nat) (st : ByteArray) (pre : List Nat) : Nat := countC m st (pre.map (· % N))
theorem cntM_snoc (N m : Nat) (st : ByteArray) (pre : List Nat) (c : Nat) : cntM N m st (pre ++ [c]) = cntM N m st pre + if allK (codeR m (c % N)) st then 1 else 0 := by
  unfold cntM
  rw [List.map_append]
  exact countC_snoc m st _ _
theorem cntM_le (N m : Nat) (st : ByteArray) (pre : List Nat) : cntM N m st pre ≤ pre.length := by
  unfold cntM
  exact Nat.le_trans (countC_le m st _) (by simp)
theorem cntM_range (N m : Nat) (st : ByteArray) : cntM N m st (List.range N) = countC m st (List.range N) := by
  unfold cntM
  congr 1
  exact (List.map_congr_left fun c hc => Nat.mod_eq_of_lt (List.mem_range.1 hc)).trans (List.map_id _)
def cntVal (N m : Nat) (st : ByteArray) (pre : List Nat) : Value := .int .i64 (cntM N m st pre : Nat)
theorem codeR_rlN {m N : Nat} (h1 : 1 ≤ m) (h3 : m ≤ 3) (hN : N = 2 ^ (m * m)) (c : Nat) : Rl (codeR m (c % N)).length (codeR m (c % N)) := by
  rw [codeR_len]
  exact codeR_rl h1 h3 (by rw [← hN]; exact Nat.mod_lt _ (by rw [hN]; exact Nat.pow_pos (by decide)))

set_option maxRecDepth 100000 in
set_option maxHeartbeats 8000000 in
theorem implCount_in (m N : Nat) (st : ByteArray) (w : World) (h1 : 1 ≤ m) (h3 : m ≤ 3) (hN : N = 2 ^ (m * m)) (hN2 : N ≤ 512) (hl : st.size ≤ 1048576) (ht : textTo st risat st.size = true) :
    CallsIn Fence.wide 6 Try.prog 15 #[.int .i64 m, .string st] w fun e w' => e = .returned (.tuple #[.int .i64 (countC m st (List.range N) : Nat), .bool true]) ∧ Below w.heap.size w w' := by
  have hRl := fun c => codeR_rlN h1 h3 hN c
  have hST := fun B w (hr : Boxed w B 3 (.int .i64 m)) => rels_stops m N h1 h3 hN 5 (by omega) B w hr
  have HRl := Lib.hid hRl
  have HST := Lib.hid hST
  have HT := Lib.hid ht
  have HN := Lib.hid hN
  have hm1 : ¬ ((m : Int) < 1) := by omega
  have hm3 : ¬ ((m : Int) > 3) := by omega
  clear hRl hST ht hN
  refine callsIn_of_wp_marks Try.func15 rfl trivial ?_ rfl
  simp only [Try.ntmps15, List.size_toArray, List.length_cons, List.length_nil, Nat.reduceAdd, Nat.reduceSub, Array.replicate_succ, Array.replicate_zero, List.push_toArray, List.append_toArray, List.nil_append, List.cons_append]
  gi_wp2_with fail
  refine ⟨trivial, ?_⟩
  refine (callsIn_wide.2 (kindTests_any _)).mono ?_
  rintro e w1 ⟨b, F, rfl, hbb, hF, hA, hb1⟩
  have HA := Lib.hid hA
  have HF := Lib.hid hF
  clear hA hF
  gi_wp2_with fail
  refine ⟨trivial, ?_⟩
  refine (callsIn_wide.2 (toldTests_any st risat b F w1 hl HF.out (fun c hc => by obtain ⟨g, caps, e, _⟩ := HA.out c hc; exact ⟨g, caps, e⟩))).mono ?_
  rintro e w2 ⟨v, rfl, ho, hb2⟩
  have B2 := hb1.trans (hb2.mono hb1.size)
  obtain ⟨ao, cap, rfl, hv⟩ := rdV_of_row ho
  have hq := fun c W (hW : Below w2.heap.size w2 W) => passes_any (HRl.out c) ao cap (toldL st risat F) (fun k => kindB (byt st k)) W (by rw [toldL_len HT.out]; exact hl) (hv.below hW) (fun k u hu => by
      obtain ⟨h1, rfl⟩ := toldL_get HT.out hu
      exact ((HA.out _ (letters_of HT.out k h1)).below hb2).below hW)
  have hlt : (toldL st risat F).length = st.size := toldL_len HT.out
  rw [hlt] at hq
  rw [hlt, HT.out]
  have HP := Lib.hid hq
  clear hq hv ho hlt hb2 hb1 HA HF hbb
  gi_wp2_with fail
  refine ⟨trivial, ?_⟩
  refine (callsIn_wide.2 (relationsOn_any m _)).mono ?_
  rintro e w4 ⟨rfl, rfl⟩
  have b1 := ((Boxed.new w2 45 (.slice ao st.size cap)).alloc (.cells #[.int .i64 0] 3)).alloc (.cells #[.int .i64 m] 3)
  have c1 := (Boxed.new (w2.alloc (.cells #[.slice ao st.size cap] 45)) 3 (.int .i64 0)).alloc (.cells #[.int .i64 m] 3)
  have n1 := Boxed.new ((w2.alloc (.cells #[.slice ao st.size cap] 45)).alloc (.cells #[.int .i64 0] 3)) 3 (.int .i64 m)
  have B0 : Below w2.heap.size w2 (((w2.alloc (.cells #[.slice ao st.size cap] 45)).alloc (.cells #[.int .i64 0] 3)).alloc (.cells #[.int .i64 m] 3)) := below_three w2 _ _ _
  have sz : w2.heap.size + 1 + 1 + 1 = (((w2.alloc (.cells #[.slice ao st.size cap] 45)).alloc (.cells #[.int .i64 0] 3)).alloc (.cells #[.int .i64 m] 3)).heap.size := by simp
  simp only [World.size_alloc] at b1 c1 n1
  have hw2 : w.heap.size ≤ w2.heap.size := B2.size
  gi_wp2
  obtain ⟨W0, hW0⟩ : ∃ W0, ((w2.alloc (.cells #[.slice ao st.size cap] 45)).alloc (.cells #[.int .i64 0] 3)).alloc (.cells #[.int .i64 m] 3) = W0 := ⟨_, rfl⟩
  rw [hW0] at b1 c1 n1 B0 sz ⊢
  clear hW0
  refine wpIn_rangeFunc_ownH (w0 := W0) rfl (by omega) (gf := 91) (lb := #[.pointer (some ⟨w2.heap.size + 1 + 1, 0, none⟩)]) rfl trivial (enters_of Try.func91 (by kernel_rfl) rfl)
    (HST.out (w2.heap.size + 1 + 1) W0 n1) KeepB.t (KeepB.b (by omega)) (Below.refl _ _) (fun _ => rfl)
    (fun pre W => (Boxed W w2.heap.size 45 (.slice ao st.size cap) ∧ Boxed W (w2.heap.size + 1) 3 (cntVal N m st pre) ∧ Boxed W (w2.heap.size + 1 + 1) 3 (.int .i64 m)) ∧ Below w2.heap.size w2 W)
    (fun _ _ _ => False)
    (OwnFrom.and (Own.from (fun s A B row hs hg hr => ⟨boxed_own _ _ (fun _ => .slice ao st.size cap) s A B row hs.1 hg hr, boxed_own _ _ (cntVal N m st) s A B row hs.2.1 hg hr, boxed_own _ _ (fun _ => .int .i64 m) s A B row hs.2.2 hg hr⟩) _) (ownFrom_below (Nat.le_refl _) (by omega)))
    (fun _ _ _ _ _ hs _ _ => hs)
    ⟨⟨b1, c1, n1⟩, B0⟩
    (fun x a' W => ∃ j, w2.heap.size + 1 + 1 < j ∧ RelAt W j (codeR m (x % N)) ∧ a' = { tmps := #[.int .i64 m, .string st, undef, undef, .int .i64 0, .bool false, .pointer (some ⟨w2.heap.size, 0, none⟩), .bool true, .pointer (some ⟨w2.heap.size + 1, 0, none⟩), .pointer (some ⟨j, 0, none⟩), .tuple #[.slice ao st.size cap, .bool true], .string st, .map (some b), .tuple #[.slice ao st.size cap, .bool true], .slice ao st.size cap, .bool true, .bool true, .bool false, .bool false, .int .i64 m, .bool (decide ((m : Int) < 1)), .bool (decide ((m : Int) < 1)), .bool (decide ((m : Int) < 1)), .int .i64 m, .bool (decide (3 < (m : Int))), .bool (decide ((m : Int) < 1) || decide (3 < (m : Int))), .int .i64 m, .func (.func 91) #[] #[.pointer (some ⟨w2.heap.size + 1 + 1, 0, none⟩)], relOf (codeR m (x % N)), undef, undef, undef, undef, undef, undef], defers := [] })
    (fun x a' _ X Y row hs hg hr => by obtain ⟨j, h1, h2, h3⟩ := hs; exact ⟨j, h1, relAt_own j (fun (_ : Unit) => codeR m (x % N)) () X Y row h2 hg (fun r e => (hr r e).2), h3⟩)
    ?assign ?body ?done ?stop
  case assign =>
    rintro l pre x W K ⟨⟨bt, bc, bn⟩, hB⟩ hK
    gi_wp2
    have hj := bn.lt
    exact hK _ _ ((KeepsOthers.alloc _ _).from _) (Below.heap_alloc W _ _ bn.lt) ⟨⟨bt.alloc _, bc.alloc _, bn.alloc _⟩, hB.alloc hB.size _⟩ ⟨W.heap.size, bn.lt, RelAt.new W (codeR m (x % N)), rfl⟩
  case body =>
    rintro l pre x a' W hl2 ⟨r, hr⟩ ⟨⟨bt, bc, bn⟩, hB⟩ ⟨j, hj, hrel, rfl⟩ hlt
    have p0 := hrel.cell0
    have p1 := hrel.cell1
    have p2 := hrel.cell2
    have p3 := hrel.cell3
    have p4 := hrel.cell4
    have pt := bt.cell
    have hsn := cntM_snoc N m st pre x
    have hcl : cntM N m st pre < 512 := Nat.lt_of_le_of_lt (cntM_le N m st pre) (by omega)
    have hcall := HP.out x W hB
    rw [show allTo (fun k => kindB (byt st k) (codeR m (x % N))) st.size = allK (codeR m (x % N)) st from rfl] at hcall
    have HB := Lib.hid (And.intro bt (And.intro bc bn))
    have HBB := Lib.hid hB
    clear bt bc bn hB
    cases hk : allK (codeR m (x % N)) st with
    | false =>
      rw [hk] at hcall hsn
      rw [if_neg (by simp), Nat.add_zero] at hsn
      have HSN := Lib.hid hsn
      have HC := Lib.hid hcall
      clear hsn hcall hk
      gi_wp2_with (refine ⟨trivial, ?_⟩; gi_at_call 47; refine (CallsIn.inRound l (callsIn_wide.2 HC.out)).mono ?_; rintro e w5 ⟨rfl, hb5⟩)
      obtain ⟨bt, bc, bn⟩ := HB.out
      exact ⟨(keepsO_below hb5).from _, hb5.block _ bn.lt, ⟨(hb5.block _ bt.lt).trans bt, by unfold cntVal; rw [HSN.out]; exact (hb5.block _ bc.lt).trans bc, (hb5.block _ bn.lt).trans bn⟩, HBB.out.trans (hb5.mono HBB.out.size)⟩
    | true =>
      rw [hk] at hcall hsn
      rw [if_pos rfl] at hsn
      have HSN := Lib.hid hsn
      have HC := Lib.hid hcall
      clear hsn hcall hk
      gi_wp2_with (refine ⟨trivial, ?_⟩; gi_at_call 47; refine (CallsIn.inRound l (callsIn_wide.2 HC.out)).mono ?_; rintro e w5 ⟨rfl, hb5⟩; obtain ⟨bt, bc, bn⟩ := HB.out; have bt5 : Boxed w5 _ _ _ := (hb5.block _ bt.lt).trans bt; have bc5 : Boxed w5 _ _ _ := (hb5.block _ bc.lt).trans bc; have bn5 : Boxed w5 _ _ _ := (hb5.block _ bn.lt).trans bn; have q0 := bc5.cell; have f0 := bc5.frozen; unfold cntVal at q0; clear p0 p1 p2 p3 p4 pt)
      have e1 : ((cntM N m st pre + 1 : Nat) : Int) = (cntM N m st pre : Int) + 1 := by omega
      refine ⟨((keepsO_below hb5).trans (KeepsOthers.setCell _ _ _)).from _, (Below.heap_setCell w5 ⟨w2.heap.size + 1, 0, none⟩ _ (w2.heap.size + 1 + 1) (by simp)).trans (hb5.block _ bn.lt), ⟨bt5.other (by omega) _, ?_, bn5.other (by omega) _⟩, (HBB.out.trans (hb5.mono HBB.out.size)).setCell (p := ⟨w2.heap.size + 1, 0, none⟩) (Nat.le_succ _) _⟩
      unfold cntVal
      rw [HSN.out, e1]
      exact bc5.set _
  case done =>
    rintro D ys W hD rfl ⟨⟨bt, bc, bn⟩, hB⟩ hK
    have pc := bc.cell
    unfold cntVal at pc
    rw [cntM_range] at pc
    gi_wp2
    refine ⟨by simp, .inl ⟨_, _, rfl, run_takeDeferred hK, ?_⟩⟩
    exact ⟨.tuple #[.int .i64 (countC m st (List.range N) : Nat), .bool true], by simp [results, Try.results15, go_sem], rfl, (B2.trans (hB.mono hw2)).trans (belowK_b (w := w) (Nat.le_refl _) W D _ _ (by omega) hK rfl rfl)⟩
  case stop =>
    rintro D c pre W _ _ h _
    exact h.elim

theorem implCount_no (n : Int) (st : ByteArray) (w : World) (hl : st.size ≤ 1048576) (hno : countB n st = false) :
    Calls Try.prog 15 #[.int .i64 n, .string st] w fun e w' => e = .returned (.tuple #[.int .i64 0, .bool false]) ∧ Below w.heap.size w w' := by
  unfold countB at hno
  have HNO := Lib.hid hno
  clear hno
  go_enter Try.func15, Try.ntmps15
  go_wp2_with fail
  refine (kindTests_any _).mono ?_
  rintro e w1 ⟨b, F, rfl, hbb, hF, hA, hb1⟩
  have HA := Lib.hid hA
  have HF := Lib.hid hF
  clear hA hF
  go_wp2_with fail
  refine (toldTests_any st risat b F w1 hl HF.out (fun c hc => by obtain ⟨g, caps, e, _⟩ := HA.out c hc; exact ⟨g, caps, e⟩)).mono ?_
  rintro e w2 ⟨v, rfl, ho, hb2⟩
  have B2 := hb1.trans (hb2.mono hb1.size)
  obtain ⟨ao, cap, rfl, hv⟩ := rdV_of_row ho
  obtain ⟨L, hL⟩ : ∃ L, (toldL st risat F).length = L := ⟨_, rfl⟩
  rw [hL]
  clear hb1 hb2 ho HA HF hbb hv hL
  cases ht : textTo st risat st.size with
  | false =>
    clear ht HNO
    go_wp2
    go_ret2
    exact ⟨rfl, B2.alloc B2.size _⟩
  | true =>
    have hn : ¬ (1 ≤ n ∧ n ≤ 3) := by
      have h := HNO.out
      rw [ht, Bool.and_true] at h
      intro hc
      simp [inB, hc.1, hc.2] at h
    clear ht HNO
    by_cases hn1 : n < 1
    · clear hn
      go_wp2
      go_ret2
      exact ⟨rfl, B2.alloc B2.size _⟩
    · have hn3 : 3 < n := by omega
      clear hn
      go_wp2
      go_ret2
      exact ⟨rfl, B2.alloc B2.size _⟩

theorem implKindCount_any (n : Int) (st : ByteArray) (w : World) (hl : st.size ≤ 1048576) :
    Calls Try.prog 15 #[.int .i64 n, .string st] w fun e w' => e = .returned (.tuple #[.int .i64 (countR n st), .bool (countB n st)]) ∧ Below w.heap.size w w' := by
  cases hb : countB n st with
  | false =>
    have e : countR n st = 0 := by unfold countR; rw [if_neg (by rw [hb]; simp)]
    rw [e]
    exact implCount_no n st w hl hb
  | true =>
    obtain ⟨h, ht⟩ := count_cases hb
    have e : countR n st = (countC n.toNat st (List.range (2 ^ (n.toNat * n.toNat))) : Nat) := by unfold countR; rw [if_pos hb]
    obtain ⟨m, rfl, h1, h3⟩ : ∃ m : Nat, n = (m : Int) ∧ 1 ≤ m ∧ m ≤ 3 := ⟨n.toNat, by omega, by omega, by omega⟩
    rw [Int.toNat_natCast] at e
    rw [e]
    obtain ⟨N, hN⟩ : ∃ N, N = 2 ^ (m * m) := ⟨_, rfl⟩
    rw [← hN]
    have hN2 : N ≤ 512 := by
      rw [hN]
      exact Nat.le_trans (Nat.pow_le_pow_right (by decide) (Nat.mul_le_mul h3 h3)) (by decide)
    exact callsIn_wide.1 (implCount_in m N st w h1 h3 hN hN2 hl ht)
end Go.Proofs.Ytonmjcfkanldcaa
