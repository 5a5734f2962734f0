/-
  Contracts of the model's RelNamed; for lists of at most 2^20 numbers.
-/
import Derived.BigRegion
import Derived.Test.YtebkeebgjjmdbabAA
namespace Go.Proofs.Ytebkeebgjjmdbab
open Go.RowKit

theorem named16 (n : Nat) (h4 : n ≤ 4) (ps : List Int) (hv : ∀ i, i < n → pv ps i < n) (pre : List (Fin n × Fin n)) : ∀ i, ∃ z : Fin 16, rowAt (namedAcc n ps pre) i = (z.val : Int) := by
  have h : ∀ (l : List (Fin n × Fin n)) (zs : List Int), zs.length = n → (∀ i, ∃ z : Fin 16, rowAt zs i = (z.val : Int)) → ∀ i, ∃ z : Fin 16, rowAt (l.foldl (fun zs p => addPair zs (pv ps p.1.val) (pv ps p.2.val)) zs) i = (z.val : Int) := by
    intro l
    induction l with
    | nil => intro zs _ hz; exact hz
    | cons p r ih =>
      intro zs hl hz
      rw [List.foldl_cons]
      refine ih _ (by rw [addPair_len, hl]) ?_
      intro i
      rw [addPair_at zs _ _ i (by rw [hl]; exact hv _ p.1.isLt)]
      by_cases e : i = pv ps p.1.val
      · rw [if_pos e]
        obtain ⟨z, hz2⟩ := hz (pv ps p.1.val)
        rw [hz2]
        exact or16 z ⟨pv ps p.2.val, by have := hv _ p.2.isLt; omega⟩
      · rw [if_neg e]
        exact hz i
  refine h pre _ (by simp) ?_
  intro i
  refine ⟨0, ?_⟩
  unfold rowAt
  rw [List.getD_eq_getElem?_getD, List.getElem?_replicate]
  split <;> rfl

theorem named_step (xs ps : List Int) (h4 : xs.length ≤ 4) (i j : Nat) (hi : i < xs.length) (hj : j < xs.length) :
    namedAcc xs.length ps (pairsTo xs.length xs (i * xs.length + (j + 1))) =
      (namedAcc xs.length ps (pairsTo xs.length xs (i * xs.length + j))).set (pv ps i) (if hasB (rowAt xs i) j then bits .or .i64 (rowAt (namedAcc xs.length ps (pairsTo xs.length xs (i * xs.length + j))) (pv ps i)) (pt (pv ps j)) else rowAt (namedAcc xs.length ps (pairsTo xs.length xs (i * xs.length + j))) (pv ps i)) := by
  have hst := pairsTo_step xs.length h4 xs ⟨i, hi⟩ ⟨j, hj⟩
  rw [← Nat.add_assoc, hst]
  by_cases hb : hasB (rowAt xs i) j = true
  · rw [if_pos hb, if_pos hb, namedAcc_snoc]
    rfl
  · rw [if_neg hb, if_neg hb, List.append_nil, set_same]

/-- names and a relation fit -/
def namB (xs ps : List Int) : Bool := relIn xs && eachB xs.length ps
def namL (xs ps : List Int) : List Int := namedAcc xs.length ps (pairsOf xs)

theorem inB_pt (x : Int) (n : Nat) : inB x 0 ((n : Int) - 1) = ptB x n := by
  unfold inB ptB
  congr 1
  apply propext
  omega

set_option maxHeartbeats 2000000 in
theorem specRelNamed_no1 (ao bo : Option Addr) (ca cb : Nat) (xs ps : List Int) (w : World) (hl : xs.length ≤ 1048576) (hq : relIn xs = false ∨ ps.length ≠ xs.length) (hx : Rd w ao xs) :
    Calls Try.prog 6 #[.slice ao xs.length ca, .slice bo ps.length cb] w (Gave w [] false) := by
  have h1 := specRelIn_any ao ca xs w hl hx
  cases hp : relIn xs with
  | false =>
    rw [hp] at h1
    have H1 := Lib.hid h1
    clear h1 hp hq
    go_enter Try.func6, Try.ntmps6
    go_wp2_with (go_at_call 18; refine H1.out.mono ?_; rintro e w1 ⟨rfl, hd⟩)
    go_ret2
    have hh : w.heap.size = w1.heap.size := by rw [hd.heap]
    exact ⟨_, rfl, by rw [hh]; exact row_lit0 w1, (hd.below _).alloc (by omega) _⟩
  | true =>
    have hne : ps.length ≠ xs.length := by
      rcases hq with h | h
      · rw [hp] at h; cases h
      · exact h
    have e1 : ((ps.length : Int) != (xs.length : Int)) = true := by simp; omega
    rw [hp] at h1
    have H1 := Lib.hid h1
    clear h1 hp hq hne
    go_enter Try.func6, Try.ntmps6
    go_wp2_with (go_at_call 18; refine H1.out.mono ?_; rintro e w1 ⟨rfl, hd⟩)
    go_ret2
    have hh : w.heap.size = w1.heap.size := by rw [hd.heap]
    exact ⟨_, rfl, by rw [hh]; exact row_lit0 w1, (hd.below _).alloc (by omega) _⟩

set_option maxHeartbeats 8000000 in
theorem specRelNamed_go (ao bo : Option Addr) (ca cb : Nat) (xs ps : List Int) (w : World) (hp : relIn xs = true) (hn : ps.length = xs.length) (hx : Rd w ao xs) (hy : Rd w bo ps) :
    Calls Try.prog 6 #[.slice ao xs.length ca, .slice bo ps.length cb] w (Gave w (ifR (seenB xs.length ps) (namL xs ps)) (seenB xs.length ps)) := by
  obtain ⟨i0, hi, hz0, hz1, hz2⟩ := info_parts Try.info3
  obtain ⟨h41, h4⟩ := relIn_len hp
  have h1 := specRelIn_any ao ca xs w (by omega) hx
  rw [hp] at h1
  have H1 := Lib.hid h1
  have HP := Lib.hid hp
  have HN := Lib.hid hn
  have e1 : ((ps.length : Int) != (xs.length : Int)) = false := by simp [hn]
  have hpl : ps.length ≤ 4 := by omega
  clear h1 hp hn
  go_enter Try.func6, Try.ntmps6
  go_wp2_with (go_at_call 18; refine H1.out.mono ?_; rintro e w1 ⟨rfl, hd⟩)
  go_loopw [6, 7] (fun t i wr => ∃ (k : Nat) (s : Int), k ≤ ps.length ∧ i = .int .i64 k ∧ t = .int .i64 s ∧ seenGo xs.length s (ps.drop k) = seenGo xs.length 0 ps ∧ Dn w wr)
    (fun _ i _ => ps.length - (intOf i).toNat)
  case atStart => exact ⟨0, 0, Nat.zero_le _, rfl, rfl, rfl, hd⟩
  case round =>
    clear hd
    obtain ⟨k, s, hk, rfl, rfl, ht, hd⟩ := hrel
    have HT := Lib.hid ht
    clear ht
    have hh : wr.heap.size = w.heap.size := by rw [hd.heap]
    have HH := Lib.hid hh
    clear hh
    by_cases hlt : k < ps.length
    · obtain ⟨b, off, x, hxk, rfl, hbl, hc1⟩ := (hd.rd hy).get k hlt
      have hdr : ps.drop k = x :: ps.drop (k + 1) := by
        rw [List.drop_eq_getElem_cons hlt]
        congr 1
        have := List.getElem?_eq_getElem hlt
        rw [hxk] at this
        simpa using this.symm
      have HD := Lib.hid hdr
      have hi1 : ((k : Nat) : Int) < (ps.length : Int) := by omega
      clear hx hxk hdr
      cases hp : ptB x xs.length with
      | false =>
        go_wp2_with (go_at_call 19; refine (l6In_any _ _ _ _).mono ?_; rw [inB_pt, hp]; rintro e w2 ⟨rfl, rfl⟩)
        go_ret2
        have := HT.out
        rw [HD.out] at this
        simp only [seenGo, hp, Bool.false_eq_true, if_false] at this
        have hs : seenB xs.length ps = false := by simp [seenB, ← this]
        rw [hs]
        exact ⟨_, rfl, by rw [← HH.out]; exact row_lit0 wr, (hd.below _).alloc (by have := HH.out; omega) _⟩
      | true =>
        obtain ⟨y, rfl⟩ := ptB_fin hp
        have hy4 : y.val < 4 := by have := y.isLt; omega
        have hpt : wrap64 (2 ^ y.val) = pt y.val := by
          rcases (by omega : y.val = 0 ∨ y.val = 1 ∨ y.val = 2 ∨ y.val = 3) with e | e | e | e <;> rw [e] <;> decide +kernel
        have HPT := Lib.hid hpt
        clear hpt
        go_wp2_with (go_at_call 19; refine (l6In_any _ _ _ _).mono ?_; rw [inB_pt, hp]; rintro e w2 ⟨rfl, rfl⟩)
        go_roundw
        case rel =>
          refine ⟨k + 1, _, by omega, by go_num, rfl, ?_, hd⟩
          have := HT.out
          rw [HD.out] at this
          simp only [seenGo, hp, if_true, Int.toNat_natCast] at this
          rw [HPT.out]
          exact this
        case measure => simp [intOf]; omega
    · have hsg : seenGo xs.length 0 ps = some s := by
        have := HT.out
        rw [List.drop_of_length_le (by omega)] at this
        exact this.symm
      have htop : wrap64 (wrap64 (2 ^ xs.length) - 1) = 2 ^ xs.length - 1 := by
        rcases (by omega : xs.length = 1 ∨ xs.length = 2 ∨ xs.length = 3 ∨ xs.length = 4) with e | e | e | e <;> rw [e] <;> decide +kernel
      have HTOP := Lib.hid htop
      have HSG := Lib.hid hsg
      clear htop hsg
      by_cases hs : s = 2 ^ xs.length - 1
      · have e2 : (s != wrap64 (wrap64 (2 ^ xs.length) - 1)) = false := by rw [HTOP.out]; simp [hs]
        have hsb : seenB xs.length ps = true := by simp [seenB, HN.out, HSG.out, hs]
        have HS := Lib.hid hs
        have heb : eachB xs.length ps = true := by rw [each_same _ h41 h4]; exact hsb
        have HE := Lib.hid heb
        have HSB := Lib.hid hsb
        clear hs hsb heb
        go_wp2_with (at_make; refine wpList_make_full _ rfl _ _ 23 rfl w.heap.size 3 i0 (.int .i64 0) 1 Try.underlying23 hi hz0 hz1 _ _ _ _ xs.length rfl rfl rfl rfl ?c1 ?c2 ?c3 ?_)
        case c1 => rw [hz2]; omega
        case c2 => unfold maxLen; omega
        case c3 => rw [HH.out]; exact Nat.le_refl _
        intro w2 hown hgrow
        have hB : Below w.heap.size w w2 := (hd.below _).grown hgrow (by rw [HH.out]; exact Nat.le_refl _) (by simp)
        rw [toList_madeCells_one, HH.out] at hown
        have hown0 : w2.ownsRow w.heap.size 3 1 (.slice (some ⟨w.heap.size, 0, none⟩) xs.length xs.length) xs.length ((namedAcc xs.length ps (pairsTo xs.length xs 0)).map (Value.int .i64)) := by
          have : pairsTo xs.length xs 0 = [] := by simp [pairsTo]
          rw [this]
          simpa [namedAcc] using hown
        rw [HH.out]
        clear hgrow hown hd
        go_wp2
        go_loopw [9, 10] (fun i _ wr => ∃ k : Nat, k ≤ xs.length ∧ i = .int .i64 k ∧ wr.ownsRow w.heap.size 3 1 (.slice (some ⟨w.heap.size, 0, none⟩) xs.length xs.length) xs.length ((namedAcc xs.length ps (pairsTo xs.length xs (k * xs.length))).map (Value.int .i64)) ∧ Below w.heap.size w wr)
          (fun i _ _ => xs.length - (intOf i).toNat)
        case atStart => exact ⟨0, Nat.zero_le _, rfl, by rw [Nat.zero_mul]; exact hown0, hB⟩
        case round =>
          clear hown0 hB HH
          obtain ⟨i, hi2, rfl, ho, hB⟩ := hrel
          obtain ⟨wo, rfl⟩ : ∃ wo : World, wo = wr := ⟨_, rfl⟩
          by_cases hlt : i < xs.length
          · go_wp2
            go_loopw [10] (fun j wr => ∃ k : Nat, k ≤ xs.length ∧ j = .int .i64 k ∧ wr.ownsRow w.heap.size 3 1 (.slice (some ⟨w.heap.size, 0, none⟩) xs.length xs.length) xs.length ((namedAcc xs.length ps (pairsTo xs.length xs (i * xs.length + k))).map (Value.int .i64)) ∧ Below w.heap.size w wr)
              (fun j _ => xs.length - (intOf j).toNat)
            case atStart => exact ⟨0, Nat.zero_le _, rfl, ho, hB⟩
            case round =>
              clear ho hB
              obtain ⟨j, hj, rfl, ho, hB⟩ := hrel
              by_cases hlj : j < xs.length
              · obtain ⟨b, off, x, hxk, rfl, hbl, hc1⟩ := (hx.below hB).get i hlt
                obtain ⟨y, hy2⟩ := row16 HP.out i
                obtain ⟨g1, g2⟩ := pv_at HE.out i hlt
                obtain ⟨g3, g4⟩ := pv_at HE.out j hlj
                obtain ⟨z, hz⟩ := named16 xs.length h4 ps (fun i h => (pv_at HE.out i h).2) (pairsTo xs.length xs (i * xs.length + j)) (pv ps i)
                have hst := named_step xs ps h4 i j hlt hlj
                rw [hy2, hz] at hst
                have hxy : x = (y.val : Int) := by
                  have := rowAt_get hlt
                  rw [hxk, hy2] at this
                  simpa using this
                rw [hxy] at hc1
                obtain ⟨b', off', hbo', hbl', hd1⟩ := (hy.below hB) i _ g1
                obtain ⟨b2, off2, hbo2, hbl2, hd2⟩ := (hy.below hB) j _ g3
                rw [hbo'] at hbo2
                simp only [Option.some.injEq, Addr.mk.injEq, and_true] at hbo2
                obtain ⟨rfl, rfl⟩ := hbo2
                subst hbo'
                have hzk : ((namedAcc xs.length ps (pairsTo xs.length xs (i * xs.length + j))).map (Value.int .i64))[pv ps i]? = some (.int .i64 (z.val : Int)) := by
                  rw [List.getElem?_map, rowAt_get (by rw [namedAcc_len]; exact g2), hz]
                  rfl
                have hc2 := ho.cellAt (pv ps i) (by omega)
                rw [hzk] at hc2
                have hf2 := ho.frozenAt (pv ps i)
                obtain ⟨m1, hm1⟩ : ∃ m, pv ps i = m := ⟨_, rfl⟩
                obtain ⟨m2, hm2⟩ : ∃ m, pv ps j = m := ⟨_, rfl⟩
                rw [hm1] at hc2 hf2 hd1 g2 hst
                rw [hm2] at hd2 g4 hst
                have hi1 : ((i : Nat) : Int) < (xs.length : Int) := by omega
                have hj1 : ((j : Nat) : Int) < (xs.length : Int) := by omega
                have hi3 : ((i : Nat) : Int) < (ps.length : Int) := by have := HN.out; omega
                have hj3 : ((j : Nat) : Int) < (ps.length : Int) := by have := HN.out; omega
                have hm3 : ((m1 : Nat) : Int) < (xs.length : Int) := by omega
                have HST := Lib.hid hst
                clear hx hy hxk hxy hy2 hz hzk hst g1 g3 hm1 hm2 e2 e1
                go_wp2
                go_region
                all_goals
                  go_wp2
                  go_roundw
                  case rel =>
                    refine ⟨j + 1, by omega, by go_num, ?_, hB.drew.setCell (Nat.le_refl _) _⟩
                    have h := (ho.stored m1 (.int .i64 (bits .or .i64 (z.val : Int) (wrap64 (bits .and .i64 ((y.val : Int) / 2 ^ j) 1 * 2 ^ m2))))).1
                    have hl : ((namedAcc xs.length ps (pairsTo xs.length xs (i * xs.length + j))).map (Value.int .i64)).set m1 (.int .i64 (bits .or .i64 (z.val : Int) (wrap64 (bits .and .i64 ((y.val : Int) / 2 ^ j) 1 * 2 ^ m2)))) = (namedAcc xs.length ps (pairsTo xs.length xs (i * xs.length + (j + 1)))).map (Value.int .i64) := by
                      rw [← List.map_set, HST.out]
                      rw [bitStep z y ⟨m2, by omega⟩ ⟨j, by omega⟩]
                    rw [hl] at h
                    exact h.drew
                  case measure => simp [intOf]; omega
              · obtain rfl : j = xs.length := by omega
                go_wp2
                go_roundw
                case rel => exact ⟨i + 1, by omega, by go_num, by rw [Nat.succ_mul]; exact ho, hB⟩
                case measure => simp [intOf]; omega
          · obtain rfl : i = xs.length := by omega
            go_wp2
            go_ret2
            rw [HSB.out]
            exact ⟨_, rfl, by rw [show (ifR true (namL xs ps)).length = xs.length from namedAcc_len _ _ _]; exact ho, hB⟩
      · have e2 : (s != wrap64 (wrap64 (2 ^ xs.length) - 1)) = true := by rw [HTOP.out]; simp [hs]
        have hsb : seenB xs.length ps = false := by simp [seenB, HSG.out, hs]
        have HSB := Lib.hid hsb
        clear hs hsb
        go_wp2
        go_ret2
        rw [HSB.out]
        exact ⟨_, rfl, by rw [← HH.out]; exact row_lit0 wr, (hd.below _).alloc (by have := HH.out; omega) _⟩

theorem specRelNamed_any (ao bo : Option Addr) (ca cb : Nat) (xs ps : List Int) (w : World) (hl : xs.length ≤ 1048576) (hx : Rd w ao xs) (hy : Rd w bo ps) :
    Calls Try.prog 6 #[.slice ao xs.length ca, .slice bo ps.length cb] w (Gave w (ifR (namB xs ps) (namL xs ps)) (namB xs ps)) := by
  unfold namB
  cases hp : relIn xs with
  | false => exact specRelNamed_no1 ao bo ca cb xs ps w hl (.inl hp) hx
  | true =>
    have h4 := relIn_len hp
    by_cases hn : ps.length = xs.length
    · have h := specRelNamed_go ao bo ca cb xs ps w hp hn hx hy
      rw [← each_same _ h4.1 h4.2] at h
      exact h
    · have h := specRelNamed_no1 ao bo ca cb xs ps w hl (.inr hn) hx
      have e : eachB xs.length ps = false := by simp [eachB, hn]
      rw [e]
      exact h
end Go.Proofs.Ytebkeebgjjmdbab
