/-
  Least bounds and lattices of the model, and OrderBound and OrderLattice of both; for lists of at most 2^20 numbers.
-/
import Derived.Test.YtnmgoeklcmoalaaOB
namespace Go.Proofs.Ytnmgoeklcmoalaa
open Go.RowKit

/-- a least bound, or -1 -/
def bndI (xs : List Int) (z : Int) : Int := match bndO xs z with | some k => (k : Int) | none => -1

set_option maxHeartbeats 4000000 in
theorem l5Bound_any {xs : List Int} (R : Rl xs.length xs) (z : Fin 16) (ao : Option Addr) (ca : Nat) (w : World) (hx : Rd w ao xs) :
    Calls Try.prog 59 #[.slice ao xs.length ca, .int .i64 (z.val : Int)] w fun e w' => e = .returned (.int .i64 (bndI xs (z.val : Int))) ∧ Dn w w' := by
  have h1 := R.one
  have h4 := R.four
  have htop := top_wrap xs.length h1 h4
  have hrel := fun k (h : k < 4) => b_bit z ⟨k, h⟩
  have hrow := relAll_row R (z.val : Int)
  have HR := Lib.hid (And.intro hrel hrow)
  clear R hrel hrow
  go_enter Try.func59, Try.ntmps59
  go_wp2
  clear htop
  go_loopw [5, 6] (fun f i wr => ∃ k : Nat, k ≤ xs.length ∧ i = .int .i64 k ∧ f = .int .i64 (relTo xs (z.val : Int) k) ∧ Dn w wr)
    (fun _ i _ => xs.length - (intOf i).toNat)
  case atStart => exact ⟨0, Nat.zero_le _, rfl, rfl, Dn.refl _⟩
  case round =>
    obtain ⟨k, hk, rfl, rfl, hd⟩ := hrel
    by_cases hlt : k < xs.length
    · obtain ⟨b, off, x, hxk, rfl, hbl, hc1⟩ := (hd.rd hx).get k hlt
      rw [rowA hxk] at hc1
      have hi1 : ((k : Nat) : Int) < (xs.length : Int) := by omega
      have hbb := HR.out.1 k (by omega)
      have HS := Lib.hid (relTo_step xs (z.val : Int) k)
      clear hx hxk
      cases hb : bitB (z.val : Int) k with
      | true =>
        rw [hb] at hbb
        have HB := Lib.hid hbb
        clear hbb
        have hb2 : (bits .and .i64 ((z.val : Int) / 2 ^ k) 1 == 1) = true := hb
        clear hb
        go_wp2
        go_roundw
        case rel => exact ⟨k + 1, by omega, by go_num, by rw [HS.out, ← HB.out]; rfl, hd⟩
        case measure => simp [intOf]; omega
      | false =>
        rw [hb] at hbb
        have HB := Lib.hid hbb
        clear hbb
        have hb2 : (bits .and .i64 ((z.val : Int) / 2 ^ k) 1 == 1) = false := hb
        clear hb
        go_wp2
        go_roundw
        case rel => exact ⟨k + 1, by omega, by go_num, by rw [HS.out, ← HB.out]; rfl, hd⟩
        case measure => simp [intOf]; omega
    · obtain rfl : k = xs.length := by omega
      obtain ⟨u, hu, hul, _⟩ := HR.out.2
      have hu' : relTo xs (z.val : Int) xs.length = (u.val : Int) := hu
      have hbu := fun k (h : k < 4) => b_bit u ⟨k, h⟩
      have hbd : ∀ k, bndB xs (z.val : Int) k = (hasB (u.val : Int) k && partB (u.val : Int) (rowAt xs k)) := fun k => by unfold bndB; rw [hu]
      have HU := Lib.hid (And.intro hbu (And.intro hbd hu))
      rw [hu']
      clear hu hu' hbu hbd HR
      go_wp2
      go_loopw [7] (fun i wr => ∃ k : Nat, k ≤ xs.length ∧ i = .int .i64 k ∧ (∀ t, t < k → bndB xs (z.val : Int) t = false) ∧ Dn w wr)
        (fun i _ => xs.length - (intOf i).toNat)
      case atStart => exact ⟨0, Nat.zero_le _, rfl, fun t ht => by omega, hd⟩
      case round =>
        clear hd
        obtain ⟨k, hk, rfl, hn, hd⟩ := hrel
        have HN := Lib.hid hn
        clear hn
        by_cases hlt : k < xs.length
        · obtain ⟨b, off, x, hxk, rfl, hbl, hc1⟩ := (hd.rd hx).get k hlt
          rw [rowA hxk] at hc1
          have hi1 : ((k : Nat) : Int) < (xs.length : Int) := by omega
          have hbb := HU.out.1 k (by omega)
          have hbd := HU.out.2.1 k
          clear hx hxk
          cases hb : bitB (u.val : Int) k with
          | false =>
            rw [hb] at hbb
            rw [← hbb, Bool.false_and] at hbd
            have HB := Lib.hid hbd
            clear hbb hbd
            have hb2 : (bits .and .i64 ((u.val : Int) / 2 ^ k) 1 == 1) = false := hb
            clear hb
            go_wp2
            go_roundw
            case rel => exact ⟨k + 1, by omega, by go_num, fun t ht => by
              by_cases e : t = k
              · subst e
                exact HB.out
              · exact HN.out t (by omega), hd⟩
            case measure => simp [intOf]; omega
          | true =>
            rw [hb] at hbb
            rw [← hbb, Bool.true_and] at hbd
            have hb2 : (bits .and .i64 ((u.val : Int) / 2 ^ k) 1 == 1) = true := hb
            clear hb hbb
            cases hp : partB (u.val : Int) (rowAt xs k) with
            | false =>
              rw [hp] at hbd
              have HB := Lib.hid hbd
              clear hbd
              have hp2 : (bits .andNot .i64 (u.val : Int) (rowAt xs k) == 0) = false := hp
              clear hp
              go_wp2
              go_roundw
              case rel => exact ⟨k + 1, by omega, by go_num, fun t ht => by
                by_cases e : t = k
                · subst e
                  exact HB.out
                · exact HN.out t (by omega), hd⟩
              case measure => simp [intOf]; omega
            | true =>
              rw [hp] at hbd
              have HB := Lib.hid (bnd_some hlt hbd HN.out)
              clear hbd
              have hp2 : (bits .andNot .i64 (u.val : Int) (rowAt xs k) == 0) = true := hp
              clear hp
              go_wp2
              go_ret
              have he : bndI xs (z.val : Int) = (k : Int) := by unfold bndI; rw [HB.out]
              exact ⟨by rw [he]; rfl, hd⟩
        · go_wp2
          go_ret
          obtain rfl : k = xs.length := by omega
          have he : bndI xs (z.val : Int) = -1 := by unfold bndI; rw [bnd_none HN.out]
          exact ⟨by rw [he]; rfl, hd⟩

/-- what OrderBound tells -/
def ordS (xs : List Int) (z : Int) : Bool := ordB xs && rowIn xs.length z
def ordO (xs : List Int) (z : Int) : Option Nat := if ordS xs z then bndO xs z else none
set_option maxHeartbeats 1000000 in
theorem specOrderBound_any (ao : Option Addr) (ca : Nat) (xs : List Int) (z : Int) (w : World) (hl : xs.length ≤ 1048576) (hx : Rd w ao xs) :
    Calls Try.prog 21 #[.slice ao xs.length ca, .int .i64 z] w fun e w' => e = .returned (.tuple #[.int .i64 (((ordO xs z).getD 0 : Nat) : Int), .bool (ordO xs z).isSome]) ∧ Below w.heap.size w w' := by
  have h1 := specOrderIn_any ao ca xs w hl hx
  unfold ordO ordS
  cases hp : ordB xs with
  | false =>
    rw [hp] at h1
    rw [Bool.false_and]
    have H1 := Lib.hid h1
    clear h1 hp hx
    go_enter Try.func21, Try.ntmps21
    go_wp2_with fail
    refine H1.out.mono ?_
    rintro e w1 ⟨rfl, hb⟩
    go_wp2
    go_ret2
    exact ⟨rfl, hb⟩
  | true =>
    rw [hp] at h1
    rw [Bool.true_and]
    have R := ord_rl hp
    have hi : inB z 0 (wrap64 (wrap64 (2 ^ xs.length) - 1)) = rowIn xs.length z := row_top _ _ R.one R.four
    cases hz : rowIn xs.length z with
    | false =>
      rw [hz] at hi
      have H1 := Lib.hid h1
      have HI := Lib.hid hi
      have h4 := R.four
      have h0 := R.one
      clear h1 hp hx R hi hz
      go_enter Try.func21, Try.ntmps21
      go_wp2_with fail
      refine H1.out.mono ?_
      rintro e w1 ⟨rfl, hb⟩
      go_wp2_with fail
      refine (l6In_any _ _ _ _).mono ?_
      rintro e w2 ⟨rfl, rfl⟩
      rw [HI.out]
      go_wp2
      go_ret2
      exact ⟨rfl, hb⟩
    | true =>
      rw [hz] at hi
      obtain ⟨u, rfl, hu⟩ := row_fin R.four hz
      have H2 := Lib.hid (fun wr h => l5Bound_any R u ao ca wr h)
      have H1 := Lib.hid h1
      have HI := Lib.hid hi
      have h4 := R.four
      have h0 := R.one
      clear h1 hp R hi hz
      go_enter Try.func21, Try.ntmps21
      go_wp2_with fail
      refine H1.out.mono ?_
      rintro e w1 ⟨rfl, hb⟩
      have hx1 := hx.below hb
      clear hx
      go_wp2_with fail
      refine (l6In_any _ _ _ _).mono ?_
      rintro e w2 ⟨rfl, rfl⟩
      rw [HI.out]
      go_wp2_with fail
      refine (H2.out _ hx1).mono ?_
      rintro e w3 ⟨rfl, hd⟩
      unfold bndI
      cases hbo : bndO xs (u.val : Int) with
      | none =>
        have HBO := Lib.hid hbo
        clear hbo
        go_wp2
        go_ret2
        exact ⟨by rw [HBO.out]; rfl, hb.trans (hd.below _)⟩
      | some k =>
        have hk := bnd_lt hbo
        have HBO := Lib.hid hbo
        clear hbo
        have hk2 : (k : Int) ≥ 0 := by omega
        rcases (by omega : k = 0 ∨ (0 : Int) < (k : Int)) with rfl | hk3
        · go_wp2
          go_ret2
          exact ⟨by rw [HBO.out]; rfl, hb.trans (hd.below _)⟩
        · go_wp2
          go_ret2
          exact ⟨by rw [HBO.out]; rfl, hb.trans (hd.below _)⟩

set_option maxHeartbeats 1000000 in
theorem implOrderBound_any (ao : Option Addr) (ca : Nat) (xs : List Int) (z : Int) (w : World) (hl : xs.length ≤ 1048576) (hx : Rd w ao xs) :
    Calls Try.prog 20 #[.slice ao xs.length ca, .int .i64 z] w fun e w' => e = .returned (.tuple #[.int .i64 (((ordO xs z).getD 0 : Nat) : Int), .bool (ordO xs z).isSome]) ∧ Below w.heap.size w w' := by
  unfold ordO ordS
  cases hp : ordB xs with
  | false =>
    rw [Bool.false_and]
    have HC := Lib.hid (orderFrom_no ao ca xs w hl hp hx)
    clear hp hx
    go_enter Try.func20, Try.ntmps20
    go_wp2_with fail
    refine HC.out.mono ?_
    rintro e w1 ⟨rfl, hb⟩
    go_wp2
    go_ret2
    exact ⟨rfl, hb.alloc hb.size _⟩
  | true =>
    rw [Bool.true_and]
    have HC := Lib.hid (orderFrom_yes ao ca xs w hp hx)
    have R := ord_rl hp
    have h1 := R.one
    have h4 := R.four
    have hs := fun wr => isSet_any z xs.length h1 h4 wr
    cases hz : rowIn xs.length z with
    | false =>
      rw [hz] at hs
      have HS := Lib.hid hs
      clear hp hx hs hz R
      go_enter Try.func20, Try.ntmps20
      go_wp2_with fail
      refine HC.out.mono ?_
      rintro e w1 ⟨rfl, hb⟩
      have x1 := OrdAt.new w1 xs
      have B1 := hb.alloc hb.size (.cells #[.int .i64 xs.length, .int .i64 (rowAt xs 0), .int .i64 (rowAt xs 1), .int .i64 (rowAt xs 2), .int .i64 (rowAt xs 3)] 64)
      have p0 := x1.cell0
      have p1 := x1.cell1
      have p2 := x1.cell2
      have p3 := x1.cell3
      have p4 := x1.cell4
      clear x1 hb
      go_wp2_with fail
      refine (HS.out _).mono ?_
      rintro e w2 ⟨rfl, rfl⟩
      go_wp2
      go_ret2
      exact ⟨rfl, B1⟩
    | true =>
      rw [hz] at hs
      have HS := Lib.hid hs
      have HB := Lib.hid (fun wr => leastBound_any R z wr)
      clear hp hx hs hz R
      go_enter Try.func20, Try.ntmps20
      go_wp2_with fail
      refine HC.out.mono ?_
      rintro e w1 ⟨rfl, hb⟩
      have x1 := OrdAt.new w1 xs
      have B1 := hb.alloc hb.size (.cells #[.int .i64 xs.length, .int .i64 (rowAt xs 0), .int .i64 (rowAt xs 1), .int .i64 (rowAt xs 2), .int .i64 (rowAt xs 3)] 64)
      have p0 := x1.cell0
      have p1 := x1.cell1
      have p2 := x1.cell2
      have p3 := x1.cell3
      have p4 := x1.cell4
      clear x1 hb
      go_wp2_with fail
      refine (HS.out _).mono ?_
      rintro e w2 ⟨rfl, rfl⟩
      go_wp2_with fail
      refine (HB.out _).mono ?_
      rintro e w3 ⟨rfl, hb3⟩
      go_wp2
      go_ret2
      exact ⟨rfl, B1.trans (hb3.mono B1.size)⟩

/-! lattices -/
/-- whether each of the first k sets has a least bound -/
def latTo (xs : List Int) (k : Nat) : Bool := (List.range k).all fun z => (bndO xs (z : Int)).isSome
theorem lat_succ (xs : List Int) (k : Nat) : latTo xs (k + 1) = (latTo xs k && (bndO xs (k : Int)).isSome) := by
  unfold latTo
  rw [List.range_succ, List.all_append]
  simp
theorem lat_no (xs : List Int) (k m : Nat) (hk : k < m) (h : (bndO xs (k : Int)).isSome = false) : latTo xs m = false := by
  unfold latTo
  rw [List.all_eq_false]
  exact ⟨k, List.mem_range.2 hk, by rw [h]; exact Bool.false_ne_true⟩
def latB (xs : List Int) : Bool := ordB xs && latTo xs (2 ^ xs.length)
end Go.Proofs.Ytnmgoeklcmoalaa
