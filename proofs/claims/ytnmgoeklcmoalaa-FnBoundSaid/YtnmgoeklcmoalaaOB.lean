/-
  Points related to all of a set, parts of sets, least bounds, lattices: the program's relatedToAll, isPartOf, leastBound, isLattice, OrderBound, OrderLattice, and the model's; for relations of at most 4 points.
-/
import Derived.Test.YtnmgoeklcmoalaaOA
import Derived.Test.YtnmgoeklcmoalaaOBA
namespace Go.Proofs.Ytnmgoeklcmoalaa
open Go.RowKit

/-- a set is a part of another one -/
def partB (s t : Int) : Bool := bits .andNot .i64 s t == 0
theorem isPartOf_any (s t : Int) (w : World) : Calls Try.prog 96 #[.int .i64 s, .int .i64 t] w fun e w' => e = .returned (.bool (partB s t)) ∧ w = w' := by
  go_enter Try.func96, Try.ntmps96
  go_wp2
  go_ret
  exact ⟨rfl, rfl⟩

/-! least bounds -/
/-- the first point below which all bounds of a set are, from the point k on -/
def bndB (xs : List Int) (z : Int) (k : Nat) : Bool := hasB (relAll xs z) k && partB (relAll xs z) (rowAt xs k)
def bndO (xs : List Int) (z : Int) : Option Nat := (List.range xs.length).find? fun k => bndB xs z k
theorem bnd_some {xs : List Int} {z : Int} {k : Nat} (hk : k < xs.length) (h : bndB xs z k = true) (hn : ∀ t, t < k → bndB xs z t = false) : bndO xs z = some k := by
  unfold bndO
  rw [List.find?_range_eq_some]
  exact ⟨h, List.mem_range.2 hk, fun j hj => by rw [hn j hj]; rfl⟩
theorem bnd_none {xs : List Int} {z : Int} (hn : ∀ t, t < xs.length → bndB xs z t = false) : bndO xs z = none := by
  unfold bndO
  rw [List.find?_eq_none]
  intro t ht
  rw [hn t (List.mem_range.1 ht)]
  exact Bool.false_ne_true
theorem bnd_lt {xs : List Int} {z : Int} {k : Nat} (h : bndO xs z = some k) : k < xs.length := by
  have := List.mem_of_find?_eq_some h
  exact List.mem_range.1 this

set_option maxHeartbeats 2000000 in
theorem leastBound_any {xs : List Int} (R : Rl xs.length xs) (z : Int) (w : World) :
    Calls Try.prog 56 #[relOf xs, .int .i64 z] w fun e w' => e = .returned (.tuple #[.int .i64 (((bndO xs z).getD 0 : Nat) : Int), .bool (bndO xs z).isSome]) ∧ Below w.heap.size w w' := by
  have h4 := R.four
  have hc := fun wr => relatedToAll_any R z wr
  have x0 := OrdAt.new w xs
  have B0 := below_one w (.cells #[.int .i64 xs.length, .int .i64 (rowAt xs 0), .int .i64 (rowAt xs 1), .int .i64 (rowAt xs 2), .int .i64 (rowAt xs 3)] 64)
  have p0 := x0.cell0
  have p1 := x0.cell1
  have p2 := x0.cell2
  have p3 := x0.cell3
  have p4 := x0.cell4
  have HC := Lib.hid hc
  clear R hc
  go_enter Try.func56, Try.ntmps56
  go_wp2_with fail
  refine (HC.out _).mono ?_
  rintro e w1 ⟨rfl, hb⟩
  have x1 := x0.below hb x0.lt
  have B1 := B0.trans (hb.mono B0.size)
  have q0 := x1.cell0
  clear x0 B0 p0 p1 p2 p3 p4 hb
  go_wp2
  go_loopw [15, 7] (fun i _ wr => ∃ k : Nat, k ≤ xs.length ∧ i = .int .i64 k ∧ (∀ t, t < k → bndB xs z t = false) ∧ OrdAt wr w.heap.size xs ∧ Below w.heap.size w wr)
    (fun i _ _ => xs.length - (intOf i).toNat)
  case atStart => exact ⟨0, Nat.zero_le _, rfl, fun t ht => by omega, x1, B1⟩
  case round =>
    obtain ⟨k, hk, rfl, hn, hr, hB⟩ := hrel
    clear x1 B1 q0
    have HN := Lib.hid hn
    clear hn
    by_cases hlt : k < xs.length
    · have hc1 := hr.row k (by omega)
      have hq : (k : Int) < 4 := by omega
      cases hz : hasB (relAll xs z) k with
      | false =>
        go_wp2_with (go_at_call 95; refine (has_any _ k (by omega) _).mono ?_; rintro e w2 ⟨rfl, rfl⟩)
        go_roundw
        case rel => exact ⟨k + 1, by omega, by go_num, fun t ht => by
          by_cases e : t = k
          · subst e
            unfold bndB
            rw [hz, Bool.false_and]
          · exact HN.out t (by omega), hr, hB⟩
        case measure => simp [intOf]; omega
      | true =>
        cases hp : partB (relAll xs z) (rowAt xs k) with
        | false =>
          go_wp2_with (first
            | (go_at_call 95; refine (has_any _ k (by omega) _).mono ?_; rintro e w2 ⟨rfl, rfl⟩)
            | (go_at_call 96; refine (isPartOf_any _ _ _).mono ?_; rintro e w2 ⟨rfl, rfl⟩))
          go_roundw
          case rel => exact ⟨k + 1, by omega, by go_num, fun t ht => by
            by_cases e : t = k
            · subst e
              unfold bndB
              rw [hp, Bool.and_false]
            · exact HN.out t (by omega), hr, hB⟩
          case measure => simp [intOf]; omega
        | true =>
          have ho : bndO xs z = some k := bnd_some hlt (by unfold bndB; rw [hz, hp]; rfl) HN.out
          have HO := Lib.hid ho
          clear ho
          go_wp2_with (first
            | (go_at_call 95; refine (has_any _ k (by omega) _).mono ?_; rintro e w2 ⟨rfl, rfl⟩)
            | (go_at_call 96; refine (isPartOf_any _ _ _).mono ?_; rintro e w2 ⟨rfl, rfl⟩))
          go_ret2
          exact ⟨by rw [HO.out]; rfl, hB⟩
    · go_wp2
      go_ret2
      obtain rfl : k = xs.length := by omega
      exact ⟨by rw [bnd_none HN.out]; rfl, hB⟩
end Go.Proofs.Ytnmgoeklcmoalaa
