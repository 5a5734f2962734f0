/-
  The walk of FnEnds, out of the contracts of the draw and of the functions that it calls; for whatever bytes.
-/
import Derived.Test.YtcdiicckngndcaaPQ
import Derived.Test.YtcdiicckngndcaaPU
import Derived.Test.YtcdiicckngndcaaSI
namespace Go.Proofs.Ytcdiicckngndcaa
open Go.RowKit

/-- a program ends from the states outside of the test and from those all of whose steps lead to such -/
theorem ends_all {xs : List Int} (R : Rl xs.length xs) {z : Int} (hz : St xs.length z) (i : Nat) (hi : i < xs.length) :
    (bits .and .i64 (endA xs.length (wiL z xs) / 2 ^ i) 1 == 1) = (!(bits .and .i64 (z / 2 ^ i) 1 == 1) || (bits .andNot .i64 (rowAt xs i) (endA xs.length (wiL z xs)) == 0)) := by
  have h4 := R.four
  have hU := R.wi z
  have he := end_last hU
  have hs := end_st hU xs.length
  have hs' : St xs.length (endA xs.length (wiL z xs)) := hs
  have e2 : endA xs.length (wiL z xs) = surA xs.length (wiL z xs) (endA xs.length (wiL z xs)) := he
  have h1 : (bits .and .i64 (endA xs.length (wiL z xs) / 2 ^ i) 1 == 1) = hasB (endA xs.length (wiL z xs)) i := bit_has h4 hs' i hi
  have h2 : (bits .and .i64 (z / 2 ^ i) 1 == 1) = hasB z i := bit_has h4 hz i hi
  have h3 : (bits .andNot .i64 (rowAt xs i) (endA xs.length (wiL z xs)) == 0) = partB (rowAt xs i) (endA xs.length (wiL z xs)) := rfl
  rw [h1, h2, h3]
  rw [Bool.eq_iff_iff]
  constructor
  · intro g
    rw [e2, has_sur hU hs' i hi] at g
    rw [Bool.or_eq_true]
    cases hc : hasB z i with
    | false => exact .inl rfl
    | true =>
      refine .inr ((St.part h4 (St.row R i) hs').2 fun j hj e => ?_)
      exact g j hj (by rw [hB_wi R z i j hi hj, hc]; exact e)
  · intro g
    rw [e2, has_sur hU hs' i hi]
    intro j hj e
    rw [hB_wi R z i j hi hj, Bool.and_eq_true] at e
    rw [e.1, Bool.or_eq_true] at g
    rcases g with g | g
    · cases g
    · exact (St.part h4 (St.row R i) hs').1 g j hj e.2
theorem bit_two {n : Nat} (h4 : n ≤ 4) {z : Int} (hz : St n z) (k : Nat) (hk : k < n) : (bits .and .i64 (z / 2 ^ k) 1 == 0) = !(bits .and .i64 (z / 2 ^ k) 1 == 1) := by
  have key : ∀ z : Fin 16, ∀ k : Fin 4, (bits .and .i64 ((z.val : Int) / 2 ^ k.val) 1 == 0) = !(bits .and .i64 ((z.val : Int) / 2 ^ k.val) 1 == 1) := by decide +kernel
  obtain ⟨u, rfl, _⟩ := hz
  exact key u ⟨k, by omega⟩

theorem fnEnds_long (ao : Option Addr) (cap n : Nat) (w : World) (hm : n ≤ maxLen) (hl : ¬ n ≤ 1048576) :
    Calls Try.prog 12 #[.slice ao n cap] w fun e w' => e = .returned (.bool true) ∧ Below w.heap.size w w' := by
  unfold maxLen at hm
  go_enter Try.func12, Try.ntmps12
  go_wp2
  go_ret
  exact ⟨rfl, Below.refl _ _⟩

set_option maxHeartbeats 8000000 in
theorem fnEnds_walk (ao : Option Addr) (c : Nat) (bs : List Nat) (w : World) (hl : bs.length ≤ 1048576) (hb : RdB w ao bs) (hc : bs.length ≤ c) (hbA : bs ≠ [] → ∀ a, ao = some a → a.block < w.heap.size) :
    Calls Try.prog 12 #[.slice ao bs.length c] w fun e w' => e = .returned (.bool true) ∧ Below w.heap.size w w' := by
  have HD := Lib.hid (drawProgEnds_any ao c bs w hb hc hbA)
  clear hb hbA
  go_enter Try.func12, Try.ntmps12
  go_wp2_with fail
  refine HD.out.mono ?_
  rintro e w1 ⟨v, a, z, rfl, hrl, ho1, B1⟩
  obtain ⟨aa, ac, rfl, ra⟩ := row_rd ho1
  have hl1 : a.length ≤ 1048576 := by omega
  clear ho1 HD
  have hI := fun w h => implProgEnds_any aa ac a z w hl1 h
  have hS := fun w h => specProgEnds_any aa ac a z w hl1 h
  cases hp : setB a z with
  | false =>
    rw [show setI a z (endA a.length (wiL z a)) = 0 by unfold setI; rw [hp]; rfl, hp] at hI
    rw [show setJ a z (endA a.length (wiL z a)) = 0 by unfold setJ; rw [hp]; rfl, hp] at hS
    have HC := Lib.hid (And.intro hI hS)
    clear hI hS hp
    go_wp2_with fail
    refine (HC.out.1 _ ra).mono ?_
    rintro e w2 ⟨rfl, b2⟩
    have ra_2 := ra.below b2
    have B2 := B1.trans (b2.mono B1.size)
    clear b2 B1 ra
    go_wp2_with fail
    refine (HC.out.2 _ ra_2).mono ?_
    rintro e w3 ⟨rfl, b3⟩
    have B3 := B2.trans (b3.mono B2.size)
    clear b3 B2 ra_2
    go_wp2
    go_ret
    exact ⟨rfl, B3⟩
  | true =>
    obtain ⟨R, hz⟩ := set_st hp
    have h4 := R.four
    rw [show setI a z (endA a.length (wiL z a)) = endA a.length (wiL z a) by unfold setI; rw [hp]; rfl, hp] at hI
    rw [show setJ a z (endA a.length (wiL z a)) = endA a.length (wiL z a) by unfold setJ; rw [hp]; rfl, hp] at hS
    have HA := Lib.hid (And.intro (fun i hi => ends_all R hz i hi) (fun i hi => bit_two h4 hz i hi))
    obtain ⟨o, ho⟩ : ∃ o, endA a.length (wiL z a) = o := ⟨_, rfl⟩
    rw [ho] at HA hI hS
    have e1 : (o == o) = true := by simp
    have e2 : (o != o) = false := by simp
    have HC := Lib.hid (And.intro hI hS)
    clear hI hS hp R hz ho
    go_wp2_with fail
    refine (HC.out.1 _ ra).mono ?_
    rintro e w2 ⟨rfl, b2⟩
    have ra_2 := ra.below b2
    have B2 := B1.trans (b2.mono B1.size)
    clear b2 B1 ra
    go_wp2_with fail
    refine (HC.out.2 _ ra_2).mono ?_
    rintro e w3 ⟨rfl, b3⟩
    have ra_3 := ra_2.below b3
    have B3 := B2.trans (b3.mono B2.size)
    clear b3 B2 ra_2
    go_wp2
    go_loopw [9, 10] (fun i _ wr => ∃ t : Nat, t ≤ a.length ∧ i = .int .i64 t ∧ w3 = wr)
      (fun i _ _ => a.length - (intOf i).toNat)
    case atStart => exact ⟨0, Nat.zero_le _, rfl, rfl⟩
    case round =>
      obtain ⟨t, ht, rfl, rfl⟩ := hrel
      by_cases hlt : t < a.length
      · obtain ⟨b, off, y, hyk, rfl, hbl2, hc2⟩ := ra_3.get t hlt
        rw [rowA hyk] at hc2
        have hi2 : ((t : Nat) : Int) < (a.length : Int) := by omega
        have hA := HA.out.1 t hlt
        have hA2 := HA.out.2 t hlt
        clear hyk
        cases hb1 : (bits .and .i64 (z / 2 ^ t) 1 == 1) with
        | true =>
          rw [hb1] at hA hA2
          cases hb2 : (bits .andNot .i64 (rowAt a t) o == 0) with
          | true =>
            rw [hb2] at hA
            clear hb1
            simp only [Bool.not_true, Bool.or_true] at hA hA2
            go_wp2
            go_roundw
            case rel => exact ⟨t + 1, by omega, by go_num, by trivial⟩
            case measure => simp [intOf]; omega
          | false =>
            rw [hb2] at hA
            clear hb1
            simp only [Bool.not_true, Bool.or_false] at hA hA2
            go_wp2
            go_roundw
            case rel => exact ⟨t + 1, by omega, by go_num, by trivial⟩
            case measure => simp [intOf]; omega
        | false =>
          rw [hb1] at hA hA2
          clear hb1
          simp only [Bool.not_false, Bool.true_or] at hA hA2
          go_wp2
          go_roundw
          case rel => exact ⟨t + 1, by omega, by go_num, by trivial⟩
          case measure => simp [intOf]; omega
      · obtain rfl : t = a.length := by omega
        go_wp2
        go_ret
        exact ⟨rfl, B3⟩
end Go.Proofs.Ytcdiicckngndcaa
