/-
  Relations told by numbers, counted by kinds: the model's KindCount.
-/
import Derived.Test.YtfcpfhffkfbgdaaHH
import Derived.StillTailTactics
namespace Go.Proofs.Ytfcpfhffkfbgdaa
open Go.RowKit Go.Maps

/-- the relation on m points that a number tells -/
def codeW (m c i : Nat) : Int := bits .and .i64 ((c : Int) / 2 ^ (m * i)) (2 ^ m - 1)
def codeR (m c : Nat) : List Int := (List.range m).map (codeW m c)
theorem codeR_len (m c : Nat) : (codeR m c).length = m := by unfold codeR; simp
theorem low1 : ∀ x : Fin 2, ∃ u : Fin 16, bits .and .i64 (x.val : Int) (2 ^ 1 - 1) = (u.val : Int) ∧ u.val < 2 ^ 1 := by decide +kernel
theorem low2 : ∀ x : Fin 16, ∃ u : Fin 16, bits .and .i64 (x.val : Int) (2 ^ 2 - 1) = (u.val : Int) ∧ u.val < 2 ^ 2 := by decide +kernel
theorem low3 : ∀ x : Fin 512, ∃ u : Fin 16, bits .and .i64 (x.val : Int) (2 ^ 3 - 1) = (u.val : Int) ∧ u.val < 2 ^ 3 := by decide +kernel
theorem div_nat (c k : Nat) : (c : Int) / 2 ^ k = ((c / 2 ^ k : Nat) : Int) := by
  rw [Int.natCast_ediv]
  simp
theorem codeW_low {m c i : Nat} (h1 : 1 ≤ m) (h3 : m ≤ 3) (hc : c < 2 ^ (m * m)) : ∃ u : Fin 16, codeW m c i = (u.val : Int) ∧ u.val < 2 ^ m := by
  unfold codeW
  rw [div_nat]
  have hle : c / 2 ^ (m * i) ≤ c := Nat.div_le_self _ _
  rcases (by omega : m = 1 ∨ m = 2 ∨ m = 3) with rfl | rfl | rfl
  · exact low1 ⟨c / 2 ^ (1 * i), by simp at hc; omega⟩
  · exact low2 ⟨c / 2 ^ (2 * i), by simp at hc; omega⟩
  · exact low3 ⟨c / 2 ^ (3 * i), by simp at hc; omega⟩
theorem codeR_at (m c i : Nat) (hi : i < m) : rowAt (codeR m c) i = codeW m c i := by
  unfold rowAt codeR
  rw [List.getD_eq_getElem?_getD, List.getElem?_map, List.getElem?_range hi]
  rfl
theorem codeR_rl {m c : Nat} (h1 : 1 ≤ m) (h3 : m ≤ 3) (hc : c < 2 ^ (m * m)) : Rl m (codeR m c) :=
  Rl.mk' (codeR_len m c) h1 (by omega) fun i hi => by
    rw [codeR_at m c i hi]
    exact codeW_low h1 h3 hc
theorem codeR_take (m c k : Nat) (hk : k < m) : (codeR m c).take (k + 1) = (codeR m c).take k ++ [codeW m c k] := by
  unfold codeR
  rw [List.take_succ_eq_append_getElem (by simpa using hk)]
  simp
/-- how many of the first k are of all kinds of a text -/
def countC (m : Nat) (st : ByteArray) (pre : List Nat) : Nat := (pre.filter fun c => allK (codeR m c) st).length
theorem countC_snoc (m : Nat) (st : ByteArray) (pre : List Nat) (c : Nat) : countC m st (pre ++ [c]) = countC m st pre + if allK (codeR m c) st then 1 else 0 := by
  unfold countC
  rw [List.filter_append, List.length_append]
  congr 1
  cases h : allK (codeR m c) st <;> simp [h]
theorem countC_le (m : Nat) (st : ByteArray) (pre : List Nat) : countC m st pre ≤ pre.length := List.length_filter_le _ _
def countB (n : Int) (st : ByteArray) : Bool := inB n 1 3 && textTo st risat st.size
def countR (n : Int) (st : ByteArray) : Int := if countB n st then (countC n.toNat st (List.range (2 ^ (n.toNat * n.toNat))) : Nat) else 0

theorem wr0 : IntKind.i64.wrap 0 = 0 := by decide
theorem wr1 : IntKind.i64.wrap 1 = 1 := by decide
theorem wr2 : IntKind.i64.wrap 2 = 2 := by decide
theorem wr3 : IntKind.i64.wrap 3 = 3 := by decide
theorem wr4 : IntKind.i64.wrap 4 = 4 := by decide
theorem wr6 : IntKind.i64.wrap 6 = 6 := by decide
theorem wr7 : IntKind.i64.wrap 7 = 7 := by decide
theorem wr8 : IntKind.i64.wrap 8 = 8 := by decide
attribute [local go_sem] wr0 wr1 wr2 wr3 wr4 wr6 wr7 wr8
theorem shr_run (c n : Nat) (y : Int) (hy : y = (n : Int)) (hn : n ≤ 64) (w : World) : Sem.run Try.prog (Op.shift .shr .i64 (c : Int) .i64 y) w = .ok (.int .i64 ((c : Int) / 2 ^ n)) w := by
  subst hy
  unfold Op.shift
  have h1 : ¬ (n : Int) < 0 := by omega
  have h2 : min ((n : Int)).toNat IntKind.i64.bits = n := by
    rw [Int.toNat_natCast]
    exact Nat.min_eq_left hn
  have h3 : (c : Int).fdiv (2 ^ n) = (c : Int) / 2 ^ n := Int.fdiv_eq_ediv_of_nonneg _ (Int.le_of_lt (Int.pow_pos (by decide)))
  simp only [h1, if_false, h2, h3]
  rfl
set_option maxHeartbeats 4000000 in
theorem l3Rel_1 (c : Nat) (w : World) : Calls Try.prog 50 #[.int .i64 1, .int .i64 c] w (GaveL w (codeR 1 c)) := by
  obtain ⟨i0, hi, hz0, hz1, hz2⟩ := info_parts Try.info3
  go_enter Try.func50, Try.ntmps50
  go_wp2
  go_loopw [5, 6] (fun v i wr => ∃ k : Nat, k ≤ 1 ∧ i = .int .i64 k ∧ wr.ownsRow w.heap.size 3 1 v k (((codeR 1 c).take k).map (Value.int .i64)) ∧ Below w.heap.size w wr)
    (fun _ i _ => 1 - (intOf i).toNat)
  case atStart => exact ⟨0, Nat.zero_le _, rfl, row_lit0 w, below_one _ _⟩
  case round =>
    obtain ⟨k, hk, rfl, ho, hb⟩ := hrel
    by_cases hlt : k < 1
    · have htk := codeR_take 1 c k hlt
      have HT := Lib.hid htk
      clear htk
      obtain rfl : k = 0 := by omega
      all_goals
        go_wp2
        go_region_law (refine step_append_own rfl (.tmp 13) (.tmp 23) 22 rfl w.heap.size 3 i0 (.int .i64 0) 1 8 Try.underlying22 hi hz0 hz1 hz2 rfl (by decide) _ _ _ rfl (ho.alloc _).drew ⟨wr.heap.size, 0, none⟩ 1 1 [_] rfl rfl (cell_one_new _ _ _) (by simp [Value.oneCell']) (by unfold maxLen; omega) (by omega) (by have := hb.size; simp; omega) ?_; intro v' w1 hown' hgrow)
        all_goals
          have hb' := own_step ho hb hb.size _ hgrow
          clear ho hb hgrow
          go_wp2
          go_roundw
          case rel =>
            first
              | (refine ⟨0 + 1, by omega, by first | rfl | go_num, ?_, hb'⟩; rw [HT.out, List.map_append]; simpa [codeW] using hown')
              | (refine ⟨1 + 1, by omega, by first | rfl | go_num, ?_, hb'⟩; rw [HT.out, List.map_append]; simpa [codeW] using hown')
              | (refine ⟨2 + 1, by omega, by first | rfl | go_num, ?_, hb'⟩; rw [HT.out, List.map_append]; simpa [codeW] using hown')
          case measure => simp [intOf]
    · obtain rfl : k = 1 := by omega
      rw [List.take_of_length_le (by rw [codeR_len]; exact Nat.le_refl _)] at ho
      go_wp2
      go_ret
      exact ⟨_, rfl, by rw [codeR_len]; exact ho, hb⟩
set_option maxHeartbeats 4000000 in
theorem l3Rel_2 (c : Nat) (w : World) : Calls Try.prog 50 #[.int .i64 2, .int .i64 c] w (GaveL w (codeR 2 c)) := by
  obtain ⟨i0, hi, hz0, hz1, hz2⟩ := info_parts Try.info3
  go_enter Try.func50, Try.ntmps50
  go_wp2
  go_loopw [5, 6] (fun v i wr => ∃ k : Nat, k ≤ 2 ∧ i = .int .i64 k ∧ wr.ownsRow w.heap.size 3 1 v k (((codeR 2 c).take k).map (Value.int .i64)) ∧ Below w.heap.size w wr)
    (fun _ i _ => 2 - (intOf i).toNat)
  case atStart => exact ⟨0, Nat.zero_le _, rfl, row_lit0 w, below_one _ _⟩
  case round =>
    obtain ⟨k, hk, rfl, ho, hb⟩ := hrel
    by_cases hlt : k < 2
    · have htk := codeR_take 2 c k hlt
      have HT := Lib.hid htk
      clear htk
      rcases (by omega : k = 0 ∨ k = 1) with rfl | rfl
      all_goals
        go_wp2
        go_region_law (refine step_append_own rfl (.tmp 13) (.tmp 23) 22 rfl w.heap.size 3 i0 (.int .i64 0) 1 8 Try.underlying22 hi hz0 hz1 hz2 rfl (by decide) _ _ _ rfl (ho.alloc _).drew ⟨wr.heap.size, 0, none⟩ 1 1 [_] rfl rfl (cell_one_new _ _ _) (by simp [Value.oneCell']) (by unfold maxLen; omega) (by omega) (by have := hb.size; simp; omega) ?_; intro v' w1 hown' hgrow)
        all_goals
          have hb' := own_step ho hb hb.size _ hgrow
          clear ho hb hgrow
          go_wp2
          go_roundw
          case rel =>
            first
              | (refine ⟨0 + 1, by omega, by first | rfl | go_num, ?_, hb'⟩; rw [HT.out, List.map_append]; simpa [codeW] using hown')
              | (refine ⟨1 + 1, by omega, by first | rfl | go_num, ?_, hb'⟩; rw [HT.out, List.map_append]; simpa [codeW] using hown')
              | (refine ⟨2 + 1, by omega, by first | rfl | go_num, ?_, hb'⟩; rw [HT.out, List.map_append]; simpa [codeW] using hown')
          case measure => simp [intOf]
    · obtain rfl : k = 2 := by omega
      rw [List.take_of_length_le (by rw [codeR_len]; exact Nat.le_refl _)] at ho
      go_wp2
      go_ret
      exact ⟨_, rfl, by rw [codeR_len]; exact ho, hb⟩
set_option maxHeartbeats 4000000 in
theorem l3Rel_3 (c : Nat) (w : World) : Calls Try.prog 50 #[.int .i64 3, .int .i64 c] w (GaveL w (codeR 3 c)) := by
  obtain ⟨i0, hi, hz0, hz1, hz2⟩ := info_parts Try.info3
  go_enter Try.func50, Try.ntmps50
  go_wp2
  go_loopw [5, 6] (fun v i wr => ∃ k : Nat, k ≤ 3 ∧ i = .int .i64 k ∧ wr.ownsRow w.heap.size 3 1 v k (((codeR 3 c).take k).map (Value.int .i64)) ∧ Below w.heap.size w wr)
    (fun _ i _ => 3 - (intOf i).toNat)
  case atStart => exact ⟨0, Nat.zero_le _, rfl, row_lit0 w, below_one _ _⟩
  case round =>
    obtain ⟨k, hk, rfl, ho, hb⟩ := hrel
    by_cases hlt : k < 3
    · have htk := codeR_take 3 c k hlt
      have HT := Lib.hid htk
      clear htk
      rcases (by omega : k = 0 ∨ k = 1 ∨ k = 2) with rfl | rfl | rfl
      all_goals
        go_wp2
        go_region_law (refine step_append_own rfl (.tmp 13) (.tmp 23) 22 rfl w.heap.size 3 i0 (.int .i64 0) 1 8 Try.underlying22 hi hz0 hz1 hz2 rfl (by decide) _ _ _ rfl (ho.alloc _).drew ⟨wr.heap.size, 0, none⟩ 1 1 [_] rfl rfl (cell_one_new _ _ _) (by simp [Value.oneCell']) (by unfold maxLen; omega) (by omega) (by have := hb.size; simp; omega) ?_; intro v' w1 hown' hgrow)
        all_goals
          have hb' := own_step ho hb hb.size _ hgrow
          clear ho hb hgrow
          go_wp2
          go_roundw
          case rel =>
            first
              | (refine ⟨0 + 1, by omega, by first | rfl | go_num, ?_, hb'⟩; rw [HT.out, List.map_append]; simpa [codeW] using hown')
              | (refine ⟨1 + 1, by omega, by first | rfl | go_num, ?_, hb'⟩; rw [HT.out, List.map_append]; simpa [codeW] using hown')
              | (refine ⟨2 + 1, by omega, by first | rfl | go_num, ?_, hb'⟩; rw [HT.out, List.map_append]; simpa [codeW] using hown')
          case measure => simp [intOf]
    · obtain rfl : k = 3 := by omega
      rw [List.take_of_length_le (by rw [codeR_len]; exact Nat.le_refl _)] at ho
      go_wp2
      go_ret
      exact ⟨_, rfl, by rw [codeR_len]; exact ho, hb⟩
theorem countC_next (m : Nat) (st : ByteArray) (c : Nat) : countC m st (List.range (c + 1)) = countC m st (List.range c) + if allK (codeR m c) st then 1 else 0 := by
  rw [List.range_succ]
  exact countC_snoc m st _ c
set_option maxHeartbeats 4000000 in
theorem specCount_1 (st : ByteArray) (L : Nat) (w : World) (hl2 : st.size ≤ 1048576) (ht : textTo st risat st.size = true) (hL : countC 1 st (List.range 2) = L) :
    Calls Try.prog 28 #[.int .i64 1, .string st] w fun e w' => e = .returned (.tuple #[.int .i64 (L : Nat), .bool true]) ∧ Below w.heap.size w w' := by
  have hr : risat.size ≤ 1048576 := by decide
  have h6 := fun W => l6In_any (1 : Int) 1 3 W
  have hin : inB (1 : Int) 1 3 = true := by decide
  rw [hin] at h6
  have H6 := Lib.hid h6
  have HT := Lib.hid ht
  have HL := Lib.hid hL
  clear h6 ht hin hL
  go_enter Try.func28, Try.ntmps28
  go_wp2_with fail
  refine (H6.out _).mono ?_
  rintro e w1 ⟨rfl, rfl⟩
  go_wp2_with fail
  refine (l3Letters_any _).mono ?_
  rintro e w2 ⟨rfl, rfl⟩
  go_wp2_with fail
  refine (l3Text_any st risat _ hl2 hr).mono ?_
  rw [HT.out]
  rintro e w2 ⟨rfl, hd2⟩
  have B2 := hd2.below w.heap.size
  clear hd2
  go_wp2
  go_loopw [6, 7] (fun n i wr => ∃ c : Nat, c ≤ 2 ∧ i = .int .i64 c ∧ n = .int .i64 (countC 1 st (List.range c) : Nat) ∧ Below w.heap.size w wr)
    (fun _ i _ => 2 - (intOf i).toNat)
  case atStart => exact ⟨0, Nat.zero_le _, rfl, rfl, B2⟩
  case round =>
    clear B2
    obtain ⟨c, hc, rfl, rfl, hB⟩ := hrel
    have hle := countC_le 1 st (List.range c)
    rw [List.length_range] at hle
    have hnx := countC_next 1 st c
    obtain ⟨q, hq⟩ : ∃ q, countC 1 st (List.range c) = q := ⟨_, rfl⟩
    rw [hq] at hle hnx
    rw [hq]
    have HN := Lib.hid hnx
    have HQ := Lib.hid hq
    clear hnx hq
    by_cases hlt : c < 2
    · have R : Rl 1 (codeR 1 c) := codeR_rl (by omega) (by omega) hlt
      have HR := Lib.hid R
      clear R
      go_wp2_with fail
      refine (l3Rel_1 c wr).mono ?_
      rintro e w3 ⟨v, rfl, ho, hb3⟩
      obtain ⟨g, qc, rfl, _, _, hrd⟩ := GaveL.form ho (Rl.pos HR.out)
      have hall := l3All_any HR.out.self st (some ⟨g, 0, none⟩) qc w3 hl2 (fun k hk => letters_of HT.out k hk) hrd
      have B3 := hB.trans (hb3.mono hB.size)
      clear ho hb3 hrd hB
      cases hk : allK (codeR 1 c) st with
      | true =>
        rw [hk] at hall HN
        have HA := Lib.hid hall
        clear hall hk
        go_wp2_with fail
        refine HA.out.mono ?_
        rintro e w4 ⟨rfl, hb4⟩
        go_wp2
        go_roundw
        case rel => exact ⟨c + 1, by omega, by go_num, by rw [HN.out]; rfl, B3.trans (hb4.mono B3.size)⟩
        case measure => simp [intOf]; omega
      | false =>
        rw [hk] at hall HN
        have HA := Lib.hid hall
        clear hall hk
        go_wp2_with fail
        refine HA.out.mono ?_
        rintro e w4 ⟨rfl, hb4⟩
        go_wp2
        go_roundw
        case rel => exact ⟨c + 1, by omega, by go_num, by rw [HN.out]; rfl, B3.trans (hb4.mono B3.size)⟩
        case measure => simp [intOf]; omega
    · have HE := Lib.hid (show q = L by rw [← HQ.out, ← HL.out, show c = 2 by omega])
      go_wp2
      go_ret2
      exact ⟨by rw [← HE.out]; rfl, hB⟩
set_option maxHeartbeats 4000000 in
theorem specCount_2 (st : ByteArray) (L : Nat) (w : World) (hl2 : st.size ≤ 1048576) (ht : textTo st risat st.size = true) (hL : countC 2 st (List.range 16) = L) :
    Calls Try.prog 28 #[.int .i64 2, .string st] w fun e w' => e = .returned (.tuple #[.int .i64 (L : Nat), .bool true]) ∧ Below w.heap.size w w' := by
  have hr : risat.size ≤ 1048576 := by decide
  have h6 := fun W => l6In_any (2 : Int) 1 3 W
  have hin : inB (2 : Int) 1 3 = true := by decide
  rw [hin] at h6
  have H6 := Lib.hid h6
  have HT := Lib.hid ht
  have HL := Lib.hid hL
  clear h6 ht hin hL
  go_enter Try.func28, Try.ntmps28
  go_wp2_with fail
  refine (H6.out _).mono ?_
  rintro e w1 ⟨rfl, rfl⟩
  go_wp2_with fail
  refine (l3Letters_any _).mono ?_
  rintro e w2 ⟨rfl, rfl⟩
  go_wp2_with fail
  refine (l3Text_any st risat _ hl2 hr).mono ?_
  rw [HT.out]
  rintro e w2 ⟨rfl, hd2⟩
  have B2 := hd2.below w.heap.size
  clear hd2
  go_wp2
  go_loopw [6, 7] (fun n i wr => ∃ c : Nat, c ≤ 16 ∧ i = .int .i64 c ∧ n = .int .i64 (countC 2 st (List.range c) : Nat) ∧ Below w.heap.size w wr)
    (fun _ i _ => 16 - (intOf i).toNat)
  case atStart => exact ⟨0, Nat.zero_le _, rfl, rfl, B2⟩
  case round =>
    clear B2
    obtain ⟨c, hc, rfl, rfl, hB⟩ := hrel
    have hle := countC_le 2 st (List.range c)
    rw [List.length_range] at hle
    have hnx := countC_next 2 st c
    obtain ⟨q, hq⟩ : ∃ q, countC 2 st (List.range c) = q := ⟨_, rfl⟩
    rw [hq] at hle hnx
    rw [hq]
    have HN := Lib.hid hnx
    have HQ := Lib.hid hq
    clear hnx hq
    by_cases hlt : c < 16
    · have R : Rl 2 (codeR 2 c) := codeR_rl (by omega) (by omega) hlt
      have HR := Lib.hid R
      clear R
      go_wp2_with fail
      refine (l3Rel_2 c wr).mono ?_
      rintro e w3 ⟨v, rfl, ho, hb3⟩
      obtain ⟨g, qc, rfl, _, _, hrd⟩ := GaveL.form ho (Rl.pos HR.out)
      have hall := l3All_any HR.out.self st (some ⟨g, 0, none⟩) qc w3 hl2 (fun k hk => letters_of HT.out k hk) hrd
      have B3 := hB.trans (hb3.mono hB.size)
      clear ho hb3 hrd hB
      cases hk : allK (codeR 2 c) st with
      | true =>
        rw [hk] at hall HN
        have HA := Lib.hid hall
        clear hall hk
        go_wp2_with fail
        refine HA.out.mono ?_
        rintro e w4 ⟨rfl, hb4⟩
        go_wp2
        go_roundw
        case rel => exact ⟨c + 1, by omega, by go_num, by rw [HN.out]; rfl, B3.trans (hb4.mono B3.size)⟩
        case measure => simp [intOf]; omega
      | false =>
        rw [hk] at hall HN
        have HA := Lib.hid hall
        clear hall hk
        go_wp2_with fail
        refine HA.out.mono ?_
        rintro e w4 ⟨rfl, hb4⟩
        go_wp2
        go_roundw
        case rel => exact ⟨c + 1, by omega, by go_num, by rw [HN.out]; rfl, B3.trans (hb4.mono B3.size)⟩
        case measure => simp [intOf]; omega
    · have HE := Lib.hid (show q = L by rw [← HQ.out, ← HL.out, show c = 16 by omega])
      go_wp2
      go_ret2
      exact ⟨by rw [← HE.out]; rfl, hB⟩
set_option maxRecDepth 100000 in
set_option maxHeartbeats 4000000 in
theorem specCount_3 (st : ByteArray) (L : Nat) (w : World) (hl2 : st.size ≤ 1048576) (ht : textTo st risat st.size = true) (hL : countC 3 st (List.range 512) = L) :
    Calls Try.prog 28 #[.int .i64 3, .string st] w fun e w' => e = .returned (.tuple #[.int .i64 (L : Nat), .bool true]) ∧ Below w.heap.size w w' := by
  have hr : risat.size ≤ 1048576 := by decide
  have h6 := fun W => l6In_any (3 : Int) 1 3 W
  have hin : inB (3 : Int) 1 3 = true := by decide
  rw [hin] at h6
  have H6 := Lib.hid h6
  have HT := Lib.hid ht
  have HL := Lib.hid hL
  clear h6 ht hin hL
  go_enter Try.func28, Try.ntmps28
  go_wp2_with fail
  refine (H6.out _).mono ?_
  rintro e w1 ⟨rfl, rfl⟩
  go_wp2_with fail
  refine (l3Letters_any _).mono ?_
  rintro e w2 ⟨rfl, rfl⟩
  go_wp2_with fail
  refine (l3Text_any st risat _ hl2 hr).mono ?_
  rw [HT.out]
  rintro e w2 ⟨rfl, hd2⟩
  have B2 := hd2.below w.heap.size
  clear hd2
  go_wp2
  go_loopw [6, 7] (fun n i wr => ∃ c : Nat, c ≤ 512 ∧ i = .int .i64 c ∧ n = .int .i64 (countC 3 st (List.range c) : Nat) ∧ Below w.heap.size w wr)
    (fun _ i _ => 512 - (intOf i).toNat)
  case atStart => exact ⟨0, Nat.zero_le _, rfl, rfl, B2⟩
  case round =>
    clear B2
    obtain ⟨c, hc, rfl, rfl, hB⟩ := hrel
    have hle := countC_le 3 st (List.range c)
    rw [List.length_range] at hle
    have hnx := countC_next 3 st c
    obtain ⟨q, hq⟩ : ∃ q, countC 3 st (List.range c) = q := ⟨_, rfl⟩
    rw [hq] at hle hnx
    rw [hq]
    have HN := Lib.hid hnx
    have HQ := Lib.hid hq
    clear hnx hq
    by_cases hlt : c < 512
    · have R : Rl 3 (codeR 3 c) := codeR_rl (by omega) (by omega) hlt
      have HR := Lib.hid R
      clear R
      go_wp2_with fail
      refine (l3Rel_3 c wr).mono ?_
      rintro e w3 ⟨v, rfl, ho, hb3⟩
      obtain ⟨g, qc, rfl, _, _, hrd⟩ := GaveL.form ho (Rl.pos HR.out)
      have hall := l3All_any HR.out.self st (some ⟨g, 0, none⟩) qc w3 hl2 (fun k hk => letters_of HT.out k hk) hrd
      have B3 := hB.trans (hb3.mono hB.size)
      clear ho hb3 hrd hB
      cases hk : allK (codeR 3 c) st with
      | true =>
        rw [hk] at hall HN
        have HA := Lib.hid hall
        clear hall hk
        go_wp2_with fail
        refine HA.out.mono ?_
        rintro e w4 ⟨rfl, hb4⟩
        go_wp2
        go_roundw
        case rel => exact ⟨c + 1, by omega, by go_num, by rw [HN.out]; rfl, B3.trans (hb4.mono B3.size)⟩
        case measure => simp [intOf]; omega
      | false =>
        rw [hk] at hall HN
        have HA := Lib.hid hall
        clear hall hk
        go_wp2_with fail
        refine HA.out.mono ?_
        rintro e w4 ⟨rfl, hb4⟩
        go_wp2
        go_roundw
        case rel => exact ⟨c + 1, by omega, by go_num, by rw [HN.out]; rfl, B3.trans (hb4.mono B3.size)⟩
        case measure => simp [intOf]; omega
    · have HE := Lib.hid (show q = L by rw [← HQ.out, ← HL.out, show c = 512 by omega])
      go_wp2
      go_ret2
      exact ⟨by rw [← HE.out]; rfl, hB⟩
set_option maxHeartbeats 4000000 in
theorem specCount_no (n : Int) (st : ByteArray) (w : World) (hl2 : st.size ≤ 1048576) (hno : countB n st = false) :
    Calls Try.prog 28 #[.int .i64 n, .string st] w fun e w' => e = .returned (.tuple #[.int .i64 0, .bool false]) ∧ Below w.heap.size w w' := by
  have hr : risat.size ≤ 1048576 := by decide
  have h6 := fun W => l6In_any n 1 3 W
  unfold countB at hno
  cases hin : inB n 1 3 with
  | false =>
    rw [hin] at h6
    have H6 := Lib.hid h6
    clear h6 hin hno
    go_enter Try.func28, Try.ntmps28
    go_wp2_with (go_at_call 49; refine (H6.out _).mono ?_; rintro e w1 ⟨rfl, rfl⟩)
    go_ret2
    exact ⟨rfl, Below.refl _ _⟩
  | true =>
    have ht : textTo st risat st.size = false := by rw [hin] at hno; simpa using hno
    rw [hin] at h6
    have H6 := Lib.hid h6
    have HT := Lib.hid ht
    clear h6 hin hno ht
    go_enter Try.func28, Try.ntmps28
    go_wp2_with fail
    refine (H6.out _).mono ?_
    rintro e w1 ⟨rfl, rfl⟩
    go_wp2_with fail
    refine (l3Letters_any _).mono ?_
    rintro e w2 ⟨rfl, rfl⟩
    go_wp2_with fail
    refine (l3Text_any st risat _ hl2 hr).mono ?_
    rw [HT.out]
    rintro e w2 ⟨rfl, hd2⟩
    go_wp2
    go_ret2
    exact ⟨rfl, hd2.below _⟩
theorem count_cases {n : Int} {st : ByteArray} (h : countB n st = true) : (n = 1 ∨ n = 2 ∨ n = 3) ∧ textTo st risat st.size = true := by
  unfold countB at h
  rw [Bool.and_eq_true] at h
  have h1 : 1 ≤ n ∧ n ≤ 3 := of_decide_eq_true h.1
  exact ⟨by omega, h.2⟩
theorem countR_1 {st : ByteArray} (h : countB 1 st = true) : countR 1 st = (countC 1 st (List.range 2) : Nat) := by unfold countR; rw [if_pos h, show ((1 : Int).toNat) = 1 from rfl, show 2 ^ (1 * 1) = 2 from rfl]
theorem countR_2 {st : ByteArray} (h : countB 2 st = true) : countR 2 st = (countC 2 st (List.range 16) : Nat) := by unfold countR; rw [if_pos h, show ((2 : Int).toNat) = 2 from rfl, show 2 ^ (2 * 2) = 16 from rfl]
theorem countR_3 {st : ByteArray} (h : countB 3 st = true) : countR 3 st = (countC 3 st (List.range 512) : Nat) := by unfold countR; rw [if_pos h, show ((3 : Int).toNat) = 3 from rfl, show 2 ^ (3 * 3) = 512 from rfl]
theorem specKindCount_any (n : Int) (st : ByteArray) (w : World) (hl2 : st.size ≤ 1048576) :
    Calls Try.prog 28 #[.int .i64 n, .string st] w fun e w' => e = .returned (.tuple #[.int .i64 (countR n st), .bool (countB n st)]) ∧ Below w.heap.size w w' := by
  cases hb : countB n st with
  | false =>
    have e : countR n st = 0 := by unfold countR; rw [if_neg (by rw [hb]; simp)]
    rw [e]
    exact specCount_no n st w hl2 hb
  | true =>
    obtain ⟨h, ht⟩ := count_cases hb
    rcases h with rfl | rfl | rfl
    · rw [countR_1 hb]; exact specCount_1 st _ w hl2 ht rfl
    · rw [countR_2 hb]; exact specCount_2 st _ w hl2 ht rfl
    · rw [countR_3 hb]; exact specCount_3 st _ w hl2 ht rfl
end Go.Proofs.Ytfcpfhffkfbgdaa
