/-
  Contracts of l7Meet, rowSpace.meet and the model's SpaceMeet; meets of a space and of its rows are the same.
-/
import Derived.Test.YtgmjdkhegbdbjaaBZQ
import Derived.Test.YtgmjdkhegbdbjaaED
namespace Go.Proofs.Ytgmjdkhegbdbjaa
open Go.RowKit

def meetTo (xs : List Int) (m : Int) (k : Nat) : Int := (List.range k).foldl (fun o i => if partB (rowAt xs i) m then bits .or .i64 o (rowAt xs i) else o) 0
theorem meetTo_step (xs : List Int) (m : Int) (k : Nat) : meetTo xs m (k + 1) = if partB (rowAt xs k) m then bits .or .i64 (meetTo xs m k) (rowAt xs k) else meetTo xs m k := by
  unfold meetTo
  rw [List.range_succ, List.foldl_append]
  rfl
theorem rowAt_of {xs : List Int} {k : Nat} {x : Int} (h : xs[k]? = some x) : rowAt xs k = x := by
  unfold rowAt
  rw [List.getD, h]
  rfl

set_option maxHeartbeats 1000000 in
theorem l7Meet_any (ao : Option Addr) (ca : Nat) (xs : List Int) (x y : Int) (w : World) (hl : xs.length ≤ 1048576) (hx : Rd w ao xs) :
    Calls Try.prog 40 #[.slice ao xs.length ca, .int .i64 x, .int .i64 y] w fun e w' => e = .returned (.int .i64 (meetTo xs (bits .and .i64 x y) xs.length)) ∧ Dn w w' := by
  go_enter Try.func40, Try.ntmps40
  go_wp2
  go_loopw [7, 8] (fun o i wr => ∃ k : Nat, k ≤ xs.length ∧ i = .int .i64 k ∧ o = .int .i64 (meetTo xs (bits .and .i64 x y) k) ∧ Dn w wr)
    (fun _ i _ => xs.length - (intOf i).toNat)
  case atStart => exact ⟨0, Nat.zero_le _, rfl, rfl, Dn.refl _⟩
  case round =>
    obtain ⟨k, hk, rfl, rfl, hd⟩ := hrel
    by_cases hlt : k < xs.length
    · obtain ⟨b, off, r, hxk, rfl, hbl, hc1⟩ := (hd.rd hx).get k hlt
      have hi1 : ((k : Nat) : Int) < (xs.length : Int) := by omega
      have hst := meetTo_step xs (bits .and .i64 x y) k
      rw [rowAt_of hxk] at hst
      clear hx hxk
      cases hb : partB r (bits .and .i64 x y) with
      | true =>
        rw [hb, if_pos rfl] at hst
        have HST := Lib.hid hst
        have hb2 : (bits .andNot .i64 r (bits .and .i64 x y) == 0) = true := hb
        clear hb hst
        go_wp2
        go_roundw
        case rel => exact ⟨k + 1, by omega, by go_num, by rw [HST.out], hd⟩
        case measure => simp [intOf]; omega
      | false =>
        rw [hb, if_neg Bool.false_ne_true] at hst
        have HST := Lib.hid hst
        have hb2 : (bits .andNot .i64 r (bits .and .i64 x y) == 0) = false := hb
        clear hb hst
        go_wp2
        go_roundw
        case rel => exact ⟨k + 1, by omega, by go_num, by rw [HST.out], hd⟩
        case measure => simp [intOf]; omega
    · obtain rfl : k = xs.length := by omega
      go_wp2
      go_ret
      exact ⟨rfl, hd⟩

set_option maxHeartbeats 1000000 in
theorem spMeet_any (ao : Option Addr) (ca : Nat) (xs : List Int) (x y : Int) (w : World) (hl : xs.length ≤ 1048576) (hx : Rd w ao xs) :
    Calls Try.prog 42 #[.slice ao xs.length ca, .int .i64 x, .int .i64 y] w fun e w' => e = .returned (.int .i64 (meetTo xs (bits .and .i64 x y) xs.length)) ∧ Dn w w' := by
  go_enter Try.func42, Try.ntmps42
  go_wp2
  go_loopw [7, 12] (fun o i wr => ∃ k : Nat, k ≤ xs.length ∧ i = .int .i64 k ∧ o = .int .i64 (meetTo xs (bits .and .i64 x y) k) ∧ Dn w wr)
    (fun _ i _ => xs.length - (intOf i).toNat)
  case atStart => exact ⟨0, Nat.zero_le _, rfl, rfl, Dn.refl _⟩
  case round =>
    obtain ⟨k, hk, rfl, rfl, hd⟩ := hrel
    by_cases hlt : k < xs.length
    · obtain ⟨b, off, r, hxk, rfl, hbl, hc1⟩ := (hd.rd hx).get k hlt
      have hi1 : ((k : Nat) : Int) < (xs.length : Int) := by omega
      have hst := meetTo_step xs (bits .and .i64 x y) k
      rw [rowAt_of hxk] at hst
      clear hx hxk
      go_wp2_with fail
      refine (isPartOf_any _ _ _).mono ?_
      rintro e w2 ⟨rfl, rfl⟩
      cases hb : partB r (bits .and .i64 x y) with
      | true =>
        rw [hb, if_pos rfl] at hst
        have HST := Lib.hid hst
        clear hb hst
        go_wp2
        go_roundw
        case rel => exact ⟨k + 1, by omega, by go_num, by rw [HST.out], hd⟩
        case measure => simp [intOf]; omega
      | false =>
        rw [hb, if_neg Bool.false_ne_true] at hst
        have HST := Lib.hid hst
        clear hb hst
        go_wp2
        go_roundw
        case rel => exact ⟨k + 1, by omega, by go_num, by rw [HST.out], hd⟩
        case measure => simp [intOf]; omega
    · obtain rfl : k = xs.length := by omega
      go_wp2
      go_ret
      exact ⟨rfl, hd⟩

/-! the mathematics -/
theorem meetTo_st {n : Nat} (h4 : n ≤ 4) {L : List Int} (hL : ∀ i, St n (rowAt L i)) (m : Int) : ∀ k, St n (meetTo L m k)
  | 0 => St.zero n
  | k + 1 => by
    rw [meetTo_step]
    split
    · exact St.or h4 (meetTo_st h4 hL m k) (hL k)
    · exact meetTo_st h4 hL m k
theorem meetTo_has {n : Nat} (h4 : n ≤ 4) {L : List Int} (hL : ∀ i, St n (rowAt L i)) (m : Int) (j : Nat) (hj : j < n) : ∀ k, hasB (meetTo L m k) j = true ↔ ∃ i, i < k ∧ partB (rowAt L i) m = true ∧ hasB (rowAt L i) j = true
  | 0 => by
    have : meetTo L m 0 = 0 := rfl
    rw [this, has_no j (by omega)]
    simp
  | k + 1 => by
    have ih := meetTo_has h4 hL m j hj k
    rw [meetTo_step]
    cases hb : partB (rowAt L k) m with
    | true =>
      rw [if_pos rfl, St.hasOr (meetTo_st h4 hL m k) (hL k) j (by omega), Bool.or_eq_true, ih]
      constructor
      · rintro (⟨i, h1, h2⟩ | h)
        · exact ⟨i, by omega, h2⟩
        · exact ⟨k, by omega, hb, h⟩
      · rintro ⟨i, h1, h2, h3⟩
        by_cases e : i = k
        · subst e; exact .inr h3
        · exact .inl ⟨i, by omega, h2, h3⟩
    | false =>
      rw [if_neg Bool.false_ne_true, ih]
      constructor
      · rintro ⟨i, h1, h2⟩; exact ⟨i, by omega, h2⟩
      · rintro ⟨i, h1, h2, h3⟩
        by_cases e : i = k
        · subst e; rw [hb] at h2; cases h2
        · exact ⟨i, by omega, h2, h3⟩
theorem spL_st {xs : List Int} (h : Rl xs.length xs) (i : Nat) : St xs.length (rowAt (spL xs) i) := by
  by_cases hi : i < (spL xs).length
  · have hm : (spL xs)[i] ∈ spL xs := List.getElem_mem hi
    rw [rowAt_of (List.getElem?_eq_getElem hi)]
    obtain ⟨z, hz, e⟩ := (mem_spL h _).1 hm
    rw [e]
    exact St.img h (St.nat h.four hz)
  · have : rowAt (spL xs) i = 0 := by
      unfold rowAt
      rw [List.getD, List.getElem?_eq_none (by omega)]
      rfl
    rw [this]; exact St.zero _
theorem spL_at {xs : List Int} {x : Int} (hx : x ∈ spL xs) : ∃ i, i < (spL xs).length ∧ rowAt (spL xs) i = x := by
  obtain ⟨i, hi, e⟩ := List.mem_iff_getElem.1 hx
  exact ⟨i, hi, by rw [rowAt_of (List.getElem?_eq_getElem hi), e]⟩
/-- The meet within the space is the meet of the rows. -/
theorem meet_same {xs : List Int} (h : Rl xs.length xs) {m : Int} (hm : St xs.length m) : meetTo (spL xs) m (spL xs).length = meetTo xs m xs.length := by
  have h4 := h.four
  refine St.ext h4 (meetTo_st h4 (spL_st h) m _) (meetTo_st h4 (fun i => St.row h i) m _) fun j hj => ?_
  rw [Bool.eq_iff_iff, meetTo_has h4 (spL_st h) m j hj, meetTo_has h4 (fun i => St.row h i) m j hj]
  constructor
  · rintro ⟨i, hi, h1, h2⟩
    have hmem : rowAt (spL xs) i ∈ spL xs := by rw [rowAt_of (List.getElem?_eq_getElem hi)]; exact List.getElem_mem hi
    obtain ⟨z, hz, e⟩ := (mem_spL h _).1 hmem
    rw [e] at h1 h2
    have hzs := St.nat h4 hz
    obtain ⟨l, hl, hzl, hlj⟩ := (has_img h hzs j hj).1 h2
    refine ⟨l, hl, ?_, hlj⟩
    rw [St.part h4 (St.row h l) hm]
    intro j' hj' hr
    exact (St.part h4 (St.img h hzs) hm).1 h1 j' hj' ((has_img h hzs j' hj').2 ⟨l, hl, hzl, hr⟩)
  · rintro ⟨l, hl, h1, h2⟩
    obtain ⟨p, hp, ep⟩ := st_nat (St.pt h4 l hl)
    have hmem : rowAt xs l ∈ spL xs := (mem_spL h _).2 ⟨p, hp, by rw [← ep, img_pt h l hl]⟩
    obtain ⟨i, hi, e⟩ := spL_at hmem
    exact ⟨i, hi, by rw [e]; exact h1, by rw [e]; exact h2⟩

/-! the model's SpaceMeet -/
def smB (xs : List Int) (x y : Int) : Bool := relIn xs && (rowIn xs.length x && (rowIn xs.length y && (madeB xs x.toNat && madeB xs y.toNat)))
def smI (xs : List Int) (x y : Int) : Int := if smB xs x y then meetTo xs (bits .and .i64 x y) xs.length else 0
theorem contains_spL {xs : List Int} (_h : Rl xs.length xs) (x : Int) : (spL xs).contains x = (rowIn xs.length x && madeB xs x.toNat) := by
  rw [Bool.eq_iff_iff, List.contains_iff_mem, Bool.and_eq_true]
  simp only [spL, List.mem_map, List.mem_filter, List.mem_range, rowIn, Bool.and_eq_true, decide_eq_true_eq]
  have hp : ((2 : Int) ^ xs.length) = ((2 ^ xs.length : Nat) : Int) := by simp
  constructor
  · rintro ⟨s, ⟨h1, h2⟩, rfl⟩
    exact ⟨⟨by omega, by rw [hp]; omega⟩, by simpa using h2⟩
  · rintro ⟨⟨h1, h2⟩, h3⟩
    rw [hp] at h2
    exact ⟨x.toNat, ⟨by omega, h3⟩, by omega⟩
theorem smB_is {xs : List Int} (hr : relIn xs = true) (x y : Int) : smB xs x y = ((spL xs).contains x && (spL xs).contains y) := by
  rw [contains_spL (Rl.of hr), contains_spL (Rl.of hr)]
  unfold smB
  rw [hr]
  cases rowIn xs.length x <;> cases rowIn xs.length y <;> cases madeB xs x.toNat <;> cases madeB xs y.toNat <;> rfl

set_option maxHeartbeats 2000000 in
theorem specSpaceMeet_any (ao : Option Addr) (ca : Nat) (xs : List Int) (x y : Int) (w : World) (hl : xs.length ≤ 1048576) (hx : Rd w ao xs) :
    Calls Try.prog 18 #[.slice ao xs.length ca, .int .i64 x, .int .i64 y] w fun e w' => e = .returned (.tuple #[.int .i64 (smI xs x y), .bool (smB xs x y)]) ∧ Below w.heap.size w w' := by
  have h1 := specRelIn_any ao ca xs w hl hx
  have zI : smB xs x y = false → smI xs x y = 0 := fun h => by unfold smI; rw [h]; rfl
  cases hp : relIn xs with
  | false =>
    rw [hp] at h1
    have hs : smB xs x y = false := by unfold smB; rw [hp]; rfl
    rw [zI hs, hs]
    have H1 := Lib.hid h1
    clear h1 hp hx hs zI
    go_enter Try.func18, Try.ntmps18
    go_wp2_with fail
    refine H1.out.mono ?_
    rintro e w1 ⟨rfl, hd⟩
    go_wp2
    go_ret2
    exact ⟨rfl, hd.below _⟩
  | true =>
    rw [hp] at h1
    have HR := Lib.hid (Rl.of hp)
    have h40 := HR.out.one
    have h44 := HR.out.four
    have HX := Lib.hid hx
    have HI := Lib.hid (row_top _ x h40 h44)
    have HJ := Lib.hid (row_top _ y h40 h44)
    have H1 := Lib.hid h1
    have hsm : smB xs x y = (rowIn xs.length x && (rowIn xs.length y && (madeB xs x.toNat && madeB xs y.toNat))) := by unfold smB; rw [hp, Bool.true_and]
    clear h1 hp hx
    cases hrx : rowIn xs.length x with
    | false =>
      rw [hrx, Bool.false_and] at hsm
      rw [zI hsm, hsm]
      have HX1 := Lib.hid hrx
      clear hrx hsm zI
      go_enter Try.func18, Try.ntmps18
      go_wp2_with fail
      refine H1.out.mono ?_
      rintro e w1 ⟨rfl, hd⟩
      go_wp2_with fail
      refine (l6In_any _ _ _ _).mono ?_
      rintro e w2 ⟨rfl, rfl⟩
      rw [HI.out, HX1.out]
      go_wp2
      go_ret2
      exact ⟨rfl, hd.below _⟩
    | true =>
      rw [hrx, Bool.true_and] at hsm
      cases hry : rowIn xs.length y with
      | false =>
        rw [hry, Bool.false_and] at hsm
        rw [zI hsm, hsm]
        have HX1 := Lib.hid hrx
        have HY1 := Lib.hid hry
        clear hrx hry hsm zI
        go_enter Try.func18, Try.ntmps18
        go_wp2_with fail
        refine H1.out.mono ?_
        rintro e w1 ⟨rfl, hd⟩
        go_wp2_with fail
        refine (l6In_any _ _ _ _).mono ?_
        rintro e w2 ⟨rfl, rfl⟩
        rw [HI.out, HX1.out]
        go_wp2_with fail
        refine (l6In_any _ _ _ _).mono ?_
        rintro e w3 ⟨rfl, rfl⟩
        rw [HJ.out, HY1.out]
        go_wp2
        go_ret2
        exact ⟨rfl, hd.below _⟩
      | true =>
        rw [hry, Bool.true_and] at hsm
        have hnx : ∃ s : Nat, x = (s : Int) ∧ s < 2 ^ xs.length := by
          obtain ⟨s, h1, h2⟩ := st_nat (St.of h44 hrx); exact ⟨s, h2, h1⟩
        have hny : ∃ s : Nat, y = (s : Int) ∧ s < 2 ^ xs.length := by
          obtain ⟨s, h1, h2⟩ := st_nat (St.of h44 hry); exact ⟨s, h2, h1⟩
        obtain ⟨s, rfl, hs⟩ := hnx
        obtain ⟨t, rfl, ht⟩ := hny
        rw [Int.toNat_natCast, Int.toNat_natCast] at hsm
        have HX1 := Lib.hid hrx
        have HY1 := Lib.hid hry
        have HSM := Lib.hid hsm
        obtain ⟨M, hM⟩ : ∃ M, 2 ^ xs.length = M := ⟨_, rfl⟩
        rw [hM] at hs ht
        have HM := Lib.hid hM
        have hsi : (s : Int) < (M : Int) := by omega
        have hti : (t : Int) < (M : Int) := by omega
        have ZI := Lib.hid zI
        clear hrx hry hsm hM zI
        go_enter Try.func18, Try.ntmps18
        go_wp2_with fail
        refine H1.out.mono ?_
        rintro e w1 ⟨rfl, hd⟩
        go_wp2_with fail
        refine (l6In_any _ _ _ _).mono ?_
        rintro e w2 ⟨rfl, rfl⟩
        rw [HI.out, HX1.out]
        go_wp2_with fail
        refine (l6In_any _ _ _ _).mono ?_
        rintro e w3 ⟨rfl, rfl⟩
        rw [HJ.out, HY1.out]
        have HD := Lib.hid hd
        clear hd
        go_wp2_with fail
        refine (l7Space_any HR.out ao ca w1 (HD.out.rd HX.out)).mono ?_
        rintro e w4 ⟨rfl, ob, hb⟩
        rw [HM.out] at ob ⊢
        have hse : (seenL xs M)[s]? = some (.bool (madeB xs s)) := by rw [← HM.out]; exact seenL_get xs s (by rw [HM.out]; exact hs)
        have hte : (seenL xs M)[t]? = some (.bool (madeB xs t)) := by rw [← HM.out]; exact seenL_get xs t (by rw [HM.out]; exact ht)
        have hc1 := ob.cellAt s (by omega)
        have hc2 := ob.cellAt t (by omega)
        rw [hse] at hc1
        rw [hte] at hc2
        have HB := Lib.hid ((HD.out.below w.heap.size).trans (hb.mono (by rw [HD.out.heap]; exact Nat.le_refl _)))
        have HX4 := Lib.hid ((HD.out.rd HX.out).below hb)
        clear hse hte ob hb
        generalize w1.heap.size = g at hc1 hc2 ⊢
        cases hmx : madeB xs s with
        | false =>
          have hz : smB xs (s : Int) (t : Int) = false := by rw [HSM.out, hmx]; rfl
          have HZ := Lib.hid (And.intro (ZI.out hz) hz)
          rw [hmx] at hc1
          clear hmx hz
          go_wp2
          go_ret2
          exact ⟨by rw [HZ.out.1, HZ.out.2]; rfl, HB.out⟩
        | true =>
          cases hmy : madeB xs t with
          | false =>
            have hz : smB xs (s : Int) (t : Int) = false := by rw [HSM.out, hmx, hmy]; rfl
            have HZ := Lib.hid (And.intro (ZI.out hz) hz)
            rw [hmx] at hc1
            rw [hmy] at hc2
            clear hmx hmy hz
            go_wp2
            go_ret2
            exact ⟨by rw [HZ.out.1, HZ.out.2]; rfl, HB.out⟩
          | true =>
            have hz : smB xs (s : Int) (t : Int) = true := by rw [HSM.out, hmx, hmy]; rfl
            have hzi : smI xs (s : Int) (t : Int) = meetTo xs (bits .and .i64 s t) xs.length := by unfold smI; rw [hz]; rfl
            have HZ := Lib.hid (And.intro hzi hz)
            rw [hmx] at hc1
            rw [hmy] at hc2
            clear hmx hmy hz hzi
            go_wp2_with fail
            refine (l7Meet_any ao ca xs _ _ w4 (by omega) HX4.out).mono ?_
            rintro e w5 ⟨rfl, hd5⟩
            have HD5 := Lib.hid hd5
            clear hd5
            go_wp2
            go_ret2
            exact ⟨by rw [HZ.out.1, HZ.out.2]; rfl, HB.out.trans (HD5.out.below _)⟩
end Go.Proofs.Ytgmjdkhegbdbjaa
