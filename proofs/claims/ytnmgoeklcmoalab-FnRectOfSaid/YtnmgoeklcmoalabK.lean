/-
  Contracts of the program's madeOfOne, twoRelationsFrom, madeOfTwo, RelOther, RelEither and RelBoth; for lists of at most 2^20 numbers.
-/
import Derived.Test.YtnmgoeklcmoalabF
import Derived.Deep.RegionLaw
import Derived.Maps.AppendAt
namespace Go.Proofs.Ytnmgoeklcmoalab
open Go.RowKit

/-- append onto a row of the call's own, as one step of a region that draws -/
theorem step_append_own {P : Program} {ops : Array Oper} {o : Oper} {a : Act} {w : World} {K : Act → World → Prop} {Q : Exit → Act → World → Prop} {E : Prop}
    (hg : o.guard = none) (s x : Operand) (t : TypeId) (ho : o.op = Op.call { callee := Callee.builtin Builtin.append, args := #[s, x], argTypes := #[t, t] })
    (base : Nat) (e : TypeId) (i : TypeInfo) (z : Value) (size bytes : Nat) (ht : P.underlying t = some (.slice e)) (hi : P.info? e = some i) (hz : i.zero = some z)
    (hsize : i.size = size) (hby : i.bytes = bytes) (hzs : z.cells.size = size) (hsz : 0 < size)
    (v : Value) (n : Nat) (xs : List Value) (hs : a.eval s = v) (hown : w.ownsRow base e size v n xs)
    (ad : Addr) (m c : Nat) (news : List Value) (hx : a.eval x = .slice (some ad) m c) (hl : news.length = m * size) (hnews : ∀ j u, news[j]? = some u → w.cell? (ad.add j) = some u) (h1 : ∀ u ∈ news, u.oneCell' = true)
    (h63 : n + m ≤ maxLen) (hbytes : (n + m) * bytes ≤ 140737488355328) (hbase : base ≤ w.heap.size)
    (h : ∀ v' w', w'.ownsRow base e size v' (n + m) (xs ++ news) → w.grownBy w' v.ownBlock → K (a.put o.dst v') w') :
    if Region.wanted o (yielded ops a.tmps) = true then Oper.wp P o a w K Q else E := by
  have hw : Region.wanted o (yielded ops a.tmps) = true := by simp [Region.wanted, hg]
  rw [if_pos hw]
  exact wp_append_own w s x t ho base e i z size bytes ht hi hz hsize hby hzs hsz v n xs hs hown ad m c news hx hl hnews h1 h63 hbytes hbase fun v' w' h2 h3 _ => h v' w' h2 h3

theorem own_step {w wr w1 : World} {base : Nat} {e : TypeId} {size : Nat} {v : Value} {n : Nat} {xs : List Value} (ho : wr.ownsRow base e size v n xs) (hb : Below base w wr) (hs : base ≤ wr.heap.size) (o : Obj)
    (hg : ((wr.alloc o).drew).grownBy w1 v.ownBlock) : Below base w w1 :=
  ((hb.alloc hs o).drew).grown hg (by simp; omega) (fun k hk => (ho.lt k hk).1)
theorem own_step' {w wr w1 : World} {base : Nat} {e : TypeId} {size : Nat} {v : Value} {n : Nat} {xs : List Value} (ho : wr.ownsRow base e size v n xs) (hb : Below base w wr) (hs : base ≤ wr.heap.size) (o : Obj)
    (hg : (wr.alloc o).grownBy w1 v.ownBlock) : Below base w w1 :=
  (hb.alloc hs o).grown hg (by simp; omega) (fun k hk => (ho.lt k hk).1)

theorem row_lit0 (w : World) : (w.alloc (.cells #[] 3)).ownsRow w.heap.size 3 1 (.slice (some ⟨w.heap.size, 0, none⟩) 0 0) 0 [] :=
  World.ownsRow_lit w #[] 0 (Nat.le_refl _) (by unfold maxLen; omega) rfl

/-- rows met -/
def zipI (f : Int → Int → Int) (xs ys : List Int) : List Int := List.zipWith f xs ys

theorem zip_take (f : Int → Int → Int) (xs ys : List Int) (k : Nat) (x y : Int) (hx : xs[k]? = some x) (hy : ys[k]? = some y) :
    (zipI f xs ys).take (k + 1) = (zipI f xs ys).take k ++ [f x y] := by
  have h : (zipI f xs ys)[k]? = some (f x y) := by unfold zipI; rw [List.getElem?_zipWith, hx, hy]
  rw [List.take_add_one, h]
  rfl

end Go.Proofs.Ytnmgoeklcmoalab

namespace Go.Proofs.Ytnmgoeklcmoalab
open Go.RowKit

/-- two relations on as many points -/
def twoIn (xs ys : List Int) : Bool := relIn xs && relIn ys && decide (xs.length = ys.length)
def eitherL (xs ys : List Int) : List Int := zipI (bits .or .i64) xs ys
def bothL (xs ys : List Int) : List Int := zipI (bits .and .i64) xs ys

theorem twoIn_yes {xs ys : List Int} (h : twoIn xs ys = true) : relIn xs = true ∧ relIn ys = true ∧ xs.length = ys.length := by
  unfold twoIn at h
  rw [Bool.and_eq_true, Bool.and_eq_true] at h
  exact ⟨h.1.1, h.1.2, of_decide_eq_true h.2⟩

/-- a list, or none -/
def ifR (b : Bool) (r : List Int) : List Int := if b then r else []

/-- what a call gives that answers a list of its own and a bool -/
def Gave (w : World) (r : List Int) (ok : Bool) (e : Ending) (w' : World) : Prop :=
  ∃ v, e = .returned (.tuple #[v, .bool ok]) ∧ w'.ownsRow w.heap.size 3 1 v r.length (r.map (Value.int .i64)) ∧ Below w.heap.size w w'

/-- all points but those of a row -/
def otherL (xs : List Int) : List Int := xs.map fun x => bits .andNot .i64 (2 ^ xs.length - 1) x

theorem other_take (xs : List Int) (k : Nat) (x : Int) (h : xs[k]? = some x) : (otherL xs).take (k + 1) = (otherL xs).take k ++ [bits .andNot .i64 (2 ^ xs.length - 1) x] := by
  have h2 : (otherL xs)[k]? = some (bits .andNot .i64 (2 ^ xs.length - 1) x) := by unfold otherL; rw [List.getElem?_map, h]; rfl
  rw [List.take_add_one, h2]
  rfl

theorem wrap_top (n : Nat) (h1 : 1 ≤ n) (h2 : n ≤ 4) : IntKind.i64.wrap (IntKind.i64.wrap (2 ^ n) - 1) = 2 ^ n - 1 := by
  rcases (by omega : n = 1 ∨ n = 2 ∨ n = 3 ∨ n = 4) with rfl | rfl | rfl | rfl <;> decide +kernel

end Go.Proofs.Ytnmgoeklcmoalab

namespace Go.Proofs.Ytnmgoeklcmoalab
open Go.RowKit

/-- block b holds the relation made of these rows -/
def RelAt (w : World) (b : Nat) (xs : List Int) : Prop :=
  w.heap[b]? = some (.cells #[.int .i64 xs.length, .int .i64 (rowAt xs 0), .int .i64 (rowAt xs 1), .int .i64 (rowAt xs 2), .int .i64 (rowAt xs 3)] 46 (0, 0))

theorem RelAt.cell0 {w : World} {b : Nat} {xs : List Int} (h : RelAt w b xs) : w.cell? ⟨b, 0, none⟩ = some (.int .i64 xs.length) := by
  unfold RelAt at h
  simp [World.cell?, h]
theorem RelAt.cell1 {w : World} {b : Nat} {xs : List Int} (h : RelAt w b xs) : w.cell? ⟨b, 1, none⟩ = some (.int .i64 (rowAt xs 0)) := by
  unfold RelAt at h
  simp [World.cell?, h]
theorem RelAt.cell2 {w : World} {b : Nat} {xs : List Int} (h : RelAt w b xs) : w.cell? ⟨b, 2, none⟩ = some (.int .i64 (rowAt xs 1)) := by
  unfold RelAt at h
  simp [World.cell?, h]
theorem RelAt.cell3 {w : World} {b : Nat} {xs : List Int} (h : RelAt w b xs) : w.cell? ⟨b, 3, none⟩ = some (.int .i64 (rowAt xs 2)) := by
  unfold RelAt at h
  simp [World.cell?, h]
theorem RelAt.cell4 {w : World} {b : Nat} {xs : List Int} (h : RelAt w b xs) : w.cell? ⟨b, 4, none⟩ = some (.int .i64 (rowAt xs 3)) := by
  unfold RelAt at h
  simp [World.cell?, h]
theorem RelAt.row {w : World} {b : Nat} {xs : List Int} (h : RelAt w b xs) (k : Nat) (hk : k < 4) : w.cell? ⟨b, 1 + k, none⟩ = some (.int .i64 (rowAt xs k)) := by
  rcases (by omega : k = 0 ∨ k = 1 ∨ k = 2 ∨ k = 3) with rfl | rfl | rfl | rfl
  · exact h.cell1
  · exact h.cell2
  · exact h.cell3
  · exact h.cell4
theorem RelAt.free {w : World} {b : Nat} {xs : List Int} (h : RelAt w b xs) (j : Nat) : w.frozen? ⟨b, j, none⟩ = false := by
  unfold RelAt at h
  simp [World.frozen?, h]
theorem RelAt.lt {w : World} {b : Nat} {xs : List Int} (h : RelAt w b xs) : b < w.heap.size := (Array.getElem?_eq_some_iff.1 h).1
theorem RelAt.new (w : World) (xs : List Int) :
    RelAt (w.alloc (.cells #[.int .i64 xs.length, .int .i64 (rowAt xs 0), .int .i64 (rowAt xs 1), .int .i64 (rowAt xs 2), .int .i64 (rowAt xs 3)] 46)) w.heap.size xs :=
  heap_alloc_new w _
theorem RelAt.alloc {w : World} {b : Nat} {xs : List Int} (h : RelAt w b xs) (o : Obj) : RelAt (w.alloc o) b xs :=
  (Below.heap_alloc w o b h.lt).trans h
theorem RelAt.below {w w' : World} {B b : Nat} {xs : List Int} (h : RelAt w b xs) (hb : Below B w w') (hlt : b < B) : RelAt w' b xs :=
  (hb.block b hlt).trans h
theorem RelAt.other {w : World} {b : Nat} {xs : List Int} (h : RelAt w b xs) {p : Addr} (hp : b ≠ p.block) (v : Value) : RelAt (w.setCell p v) b xs :=
  (Below.heap_setCell w p v b hp).trans h
theorem RelAt.drew {w : World} {b : Nat} {xs : List Int} (h : RelAt w b xs) : RelAt w.drew b xs := h
theorem RelAt.drewN {w : World} {b : Nat} {xs : List Int} (h : RelAt w b xs) (n : Nat) : RelAt (w.drewN n) b xs := h
theorem RelAt.dn {w w' : World} {b : Nat} {xs : List Int} (h : RelAt w b xs) (hd : Dn w w') : RelAt w' b xs := by
  obtain ⟨q, rfl⟩ := hd
  exact h

theorem rowAt_set (xs : List Int) (k i : Nat) (v : Int) (hk : k < xs.length) : rowAt (xs.set k v) i = if i = k then v else rowAt xs i := by
  unfold rowAt
  rw [List.getD_eq_getElem?_getD, List.getD_eq_getElem?_getD, List.getElem?_set]
  by_cases h : i = k
  · subst h
    simp [hk]
  · rw [if_neg (fun e => h e.symm), if_neg h]

theorem RelAt.set {w : World} {b : Nat} {xs : List Int} (h : RelAt w b xs) (k : Nat) (hk : k < xs.length) (h4 : k < 4) (v : Int) :
    RelAt (w.setCell ⟨b, 1 + k, none⟩ (.int .i64 v)) b (xs.set k v) := by
  unfold RelAt
  rw [heap_setCell_same w b (1 + k) _ _ _ h, List.length_set, rowAt_set _ _ _ _ hk, rowAt_set _ _ _ _ hk, rowAt_set _ _ _ _ hk, rowAt_set _ _ _ _ hk]
  rcases (by omega : k = 0 ∨ k = 1 ∨ k = 2 ∨ k = 3) with rfl | rfl | rfl | rfl <;> simp

theorem rowAt_get {xs : List Int} {k : Nat} (h : k < xs.length) : xs[k]? = some (rowAt xs k) := by
  unfold rowAt
  rw [List.getD_eq_getElem?_getD, List.getElem?_eq_getElem h]
  rfl

set_option maxHeartbeats 1000000 in
theorem list_any (xs : List Int) (w : World) (h4 : xs.length ≤ 4) :
    Calls Try.prog 40 #[relOf xs] w fun e w' => ∃ v, e = .returned v ∧
      w'.ownsRow w.heap.size 3 1 v xs.length (xs.map (Value.int .i64)) ∧ Below w.heap.size w w' := by
  obtain ⟨i0, hi, hz0, hz1, hz2⟩ := info_parts Try.info3
  have hr0 := RelAt.new w xs
  have hc0 := hr0.cell0
  go_enter Try.func40, Try.ntmps40
  go_wp2_with (at_make; refine wpList_make_full _ rfl _ _ 23 rfl w.heap.size 3 i0 (.int .i64 0) 1 Try.underlying23 hi hz0 hz1 _ _ _ _ xs.length rfl rfl rfl rfl ?c1 ?c2 ?c3 ?_)
  case c1 => rw [hz2]; omega
  case c2 => unfold maxLen; omega
  case c3 => simp
  intro w1 hown hgrow
  have hB : Below w.heap.size w w1 := (below_one _ _).grown hgrow (by simp) (by simp)
  have hr1 : RelAt w1 w.heap.size xs := (hgrow.block w.heap.size (by simp) (by simp)).trans hr0
  rw [toList_madeCells_one] at hown
  clear hgrow hr0 hc0
  go_wp2
  go_loopw [10, 4] (fun i _ wr => ∃ k : Nat, k ≤ xs.length ∧ i = .int .i64 k ∧ RelAt wr w.heap.size xs ∧
      wr.ownsRow w.heap.size 3 1 (.slice (some ⟨w.heap.size + 1, 0, none⟩) xs.length xs.length) xs.length ((xs.take k).map (Value.int .i64) ++ List.replicate (xs.length - k) (.int .i64 0)) ∧ Below w.heap.size w wr)
    (fun i _ _ => xs.length - (intOf i).toNat)
  case atStart => exact ⟨0, Nat.zero_le _, rfl, hr1, by simpa using hown, hB⟩
  case round =>
    obtain ⟨k, hk, rfl, hr, ho, hb⟩ := hrel
    by_cases hlt : k < xs.length
    · have hc1 := hr.row k (by omega)
      have hc2 := ho.cellAt k (by omega)
      have hf2 := ho.frozenAt k
      have hq : (k : Int) < 4 := by omega
      clear hr1 hown hB
      go_wp2
      go_roundw
      case rel =>
        refine ⟨k + 1, by omega, by go_num, hr.other (by simp) _, ?_, hb.setCell (by simp) _⟩
        have := (ho.stored k (.int .i64 (rowAt xs k))).1
        rw [toInts_step xs k _ (rowAt_get hlt)] at this
        exact this
      case measure => simp [intOf]; omega
    · go_wp2
      go_ret
      obtain rfl : k = xs.length := by omega
      exact ⟨_, rfl, by simpa using ho, hb⟩

/-- the first k rows are those of ys, the others those of xs -/
def Mix (xs ys : List Int) (k : Nat) (zs : List Int) : Prop := zs.length = xs.length ∧ ∀ j, zs[j]? = if j < k then ys[j]? else xs[j]?
theorem Mix.zero (xs ys : List Int) : Mix xs ys 0 xs := ⟨rfl, fun j => by rw [if_neg (by omega)]⟩
theorem Mix.step {xs ys zs : List Int} {k : Nat} {v : Int} (h : Mix xs ys k zs) (hk : k < xs.length) (hv : ys[k]? = some v) : Mix xs ys (k + 1) (zs.set k v) := by
  refine ⟨by rw [List.length_set, h.1], fun j => ?_⟩
  rw [List.getElem?_set, h.2]
  by_cases e : k = j
  · subst e
    rw [if_pos rfl, if_pos (by rw [h.1]; exact hk), if_pos (by omega), hv]
  · rw [if_neg e]
    by_cases h2 : j < k
    · rw [if_pos h2, if_pos (by omega)]
    · rw [if_neg h2, if_neg (by omega)]
theorem Mix.full {xs ys zs : List Int} (h : Mix xs ys xs.length zs) (hy : ys.length = xs.length) : zs = ys := by
  apply List.ext_getElem?
  intro j
  rw [h.2]
  by_cases e : j < xs.length
  · rw [if_pos e]
  · rw [if_neg e, List.getElem?_eq_none (by omega), List.getElem?_eq_none (by omega)]
theorem Mix.at {xs ys zs : List Int} {k : Nat} (h : Mix xs ys k zs) : rowAt zs k = rowAt xs k := by
  unfold rowAt
  rw [List.getD_eq_getElem?_getD, List.getD_eq_getElem?_getD, h.2, if_neg (by omega)]

theorem other_at (xs : List Int) (k : Nat) (h : k < xs.length) : (otherL xs)[k]? = some (bits .andNot .i64 (2 ^ xs.length - 1) (rowAt xs k)) := by
  unfold otherL
  rw [List.getElem?_map, rowAt_get h]
  rfl
theorem pow_top (n : Nat) (h1 : 1 ≤ n) (h4 : n ≤ 4) : ((2 ^ n - 1 : Nat) : Int) = 2 ^ n - 1 := by
  rcases (by omega : n = 1 ∨ n = 2 ∨ n = 3 ∨ n = 4) with rfl | rfl | rfl | rfl <;> rfl

end Go.Proofs.Ytnmgoeklcmoalab

namespace Go.Proofs.Ytnmgoeklcmoalab
open Go.RowKit

theorem zip_at (f : Int → Int → Int) (xs ys : List Int) (k : Nat) (h : k < xs.length) (h2 : k < ys.length) : (zipI f xs ys)[k]? = some (f (rowAt xs k) (rowAt ys k)) := by
  unfold zipI
  rw [List.getElem?_zipWith, rowAt_get h, rowAt_get h2]
theorem rel_zero (w : World) : RelAt (w.alloc (.cells #[.int .i64 0, .int .i64 0, .int .i64 0, .int .i64 0, .int .i64 0] 46)) w.heap.size [] := by
  have := RelAt.new w []
  simpa [rowAt] using this
theorem below_four (w : World) (o p q r : Obj) : Below w.heap.size w ((((w.alloc o).alloc p).alloc q).alloc r) := (below_three w o p q).alloc (by simp; omega) _

set_option maxHeartbeats 1000000 in
theorem both_any (xs ys : List Int) (w : World) (h4 : xs.length ≤ 4) (hn : xs.length = ys.length) :
    Calls Try.prog 83 #[relOf xs, relOf ys] w fun e w' => e = .returned (relOf (bothL xs ys)) ∧ Below w.heap.size w w' := by
  have hr0 := ((RelAt.new w xs).alloc (.cells #[.int .i64 ys.length, .int .i64 (rowAt ys 0), .int .i64 (rowAt ys 1), .int .i64 (rowAt ys 2), .int .i64 (rowAt ys 3)] 46)).alloc (.cells #[.int .i64 0, .int .i64 0, .int .i64 0, .int .i64 0, .int .i64 0] 46)
  have hs0 := (RelAt.new (w.alloc (.cells #[.int .i64 xs.length, .int .i64 (rowAt xs 0), .int .i64 (rowAt xs 1), .int .i64 (rowAt xs 2), .int .i64 (rowAt xs 3)] 46)) ys).alloc (.cells #[.int .i64 0, .int .i64 0, .int .i64 0, .int .i64 0, .int .i64 0] 46)
  have ht0 := rel_zero ((w.alloc (.cells #[.int .i64 xs.length, .int .i64 (rowAt xs 0), .int .i64 (rowAt xs 1), .int .i64 (rowAt xs 2), .int .i64 (rowAt xs 3)] 46)).alloc (.cells #[.int .i64 ys.length, .int .i64 (rowAt ys 0), .int .i64 (rowAt ys 1), .int .i64 (rowAt ys 2), .int .i64 (rowAt ys 3)] 46))
  simp only [World.size_alloc] at hs0 ht0
  have hc0 := hr0.cell0
  have hol : (bothL xs ys).length = xs.length := by unfold bothL zipI; rw [List.length_zipWith, hn, Nat.min_self]
  have HO := Lib.hid hol
  have HN := Lib.hid hn
  clear hol hn
  go_enter Try.func83, Try.ntmps83
  go_wp2
  go_loopw [8, 5] (fun i _ wr => ∃ (k : Nat) (zs : List Int), k ≤ xs.length ∧ i = .int .i64 k ∧ Mix xs (bothL xs ys) k zs ∧ RelAt wr w.heap.size zs ∧ RelAt wr (w.heap.size + 1) ys ∧ RelAt wr (w.heap.size + 1 + 1) [] ∧ Below w.heap.size w wr)
    (fun i _ _ => xs.length - (intOf i).toNat)
  case atStart => exact ⟨0, xs, Nat.zero_le _, rfl, Mix.zero _ _, hr0, hs0, ht0, below_three _ _ _ _⟩
  case round =>
    obtain ⟨k, zs, hk, rfl, hm, hr, hs, hrz, hb⟩ := hrel
    clear hr0 hc0 hs0 ht0
    by_cases hlt : k < xs.length
    · have hc1 := hr.row k (by omega)
      rw [hm.at] at hc1
      have hd1 := hs.row k (by omega)
      have hq : (k : Int) < 4 := by omega
      have hf := hr.free (1 + k)
      go_wp2
      go_region
      all_goals
        go_wp2
        go_roundw
        case rel =>
          refine ⟨k + 1, zs.set k (bits .and .i64 (rowAt xs k) (rowAt ys k)), by omega, by go_num, hm.step hlt (zip_at _ xs ys k hlt (by rw [← HN.out]; exact hlt)), ?_, hs.other (p := ⟨w.heap.size, 1 + k, none⟩) (by simp) _, hrz.other (p := ⟨w.heap.size, 1 + k, none⟩) (by simp; omega) _, hb.drew.setCell (Nat.le_refl _) _⟩
          exact hr.set k (by rw [hm.1]; exact hlt) (by omega) (bits .and .i64 (rowAt xs k) (rowAt ys k))
        case measure => simp [intOf]; omega
    · obtain rfl : k = xs.length := by omega
      have hz := hm.full HO.out
      subst hz
      have hcn := hr.cell0
      rw [HO.out] at hcn
      have hc1 := hr.cell1
      have hc2 := hr.cell2
      have hc3 := hr.cell3
      have hc4 := hr.cell4
      have hz0 := hrz.cell0
      have hz1 := hrz.cell1
      have hz2 := hrz.cell2
      have hz3 := hrz.cell3
      have hz4 := hrz.cell4
      have hy0 := hrz.free 0
      have hy1 := hrz.free 1
      have hy2 := hrz.free 2
      have hy3 := hrz.free 3
      have hy4 := hrz.free 4
      go_wp2
      refine bodyPost_ret (v := relOf (bothL xs ys)) (by simp [results, Try.results83, go_sem, hz0, hz1, hz2, hz3, hz4, HO.out]) rfl ⟨rfl, ?_⟩
      repeat (first | exact hb | refine Below.setCell ?_ (by simp; omega) _)

end Go.Proofs.Ytnmgoeklcmoalab

namespace Go.Proofs.Ytnmgoeklcmoalab
open Go.RowKit

theorem own_mono {w : World} {B B' : Nat} {e : TypeId} {size : Nat} {v : Value} {n : Nat} {xs : List Value} (h : w.ownsRow B e size v n xs) (hB : B' ≤ B) : w.ownsRow B' e size v n xs := by
  refine ⟨h.1, ?_⟩
  rcases h.2 with h2 | ⟨g, cap, cur, h1, h2, h3⟩
  · exact .inl h2
  · exact .inr ⟨g, cap, cur, h1, Nat.le_trans hB h2, h3⟩

theorem madeOfOne_no (f : Value) (ao : Option Addr) (ca : Nat) (xs : List Int) (w : World) (hl : xs.length ≤ 1048576) (hx : Rd w ao xs) (hp : relIn xs = false) :
    Calls Try.prog 41 #[.slice ao xs.length ca, f] w (Gave w [] false) := by
  have HP := Lib.hid hp
  clear hp
  go_enter Try.func41, Try.ntmps41
  go_wp2_with (go_at_call 32; refine (relationFrom_no _ _ _ _ hl HP.out hx).mono ?_; rintro e w1 ⟨rfl, hb⟩)
  go_ret2
  exact ⟨.slice none 0 0, rfl, World.ownsRow_nil _ _ _ _, hb.alloc hb.size _⟩

theorem madeOfOne_yes (g : FuncId) (hcf : ∀ args w, Sem.run Try.prog (callFunc g args) w = .ok (.enter g args) w) (m : List Int → List Int) (ao : Option Addr) (ca : Nat) (xs : List Int) (w : World) (hx : Rd w ao xs) (hp : relIn xs = true) (hm : (m xs).length = xs.length)
    (hg : ∀ w, Calls Try.prog g #[relOf xs] w fun e w' => e = .returned (relOf (m xs)) ∧ Below w.heap.size w w') :
    Calls Try.prog 41 #[.slice ao xs.length ca, .func (.func g) #[] #[]] w (Gave w (m xs) true) := by
  have h4 := (relIn_len hp).2
  have HP := Lib.hid hp
  have HM := Lib.hid hm
  have HG := Lib.hid hg
  clear hp hm hg
  go_enter Try.func41, Try.ntmps41
  go_wp2_with fail
  refine (relationFrom_yes _ _ _ _ HP.out hx).mono ?_
  rintro e w1 ⟨rfl, hb⟩
  go_wp2_with fail
  refine (HG.out _).mono ?_
  rintro e w2 ⟨rfl, hb2⟩
  go_wp2_with fail
  refine (list_any (m xs) w2 (by rw [HM.out]; exact h4)).mono ?_
  rintro e w3 ⟨v, rfl, ho, hb3⟩
  go_wp2
  go_ret2
  have h12 : Below w.heap.size w w2 := (hb.alloc hb.size _).trans (hb2.mono (by have := hb.size; simp; omega))
  exact ⟨v, rfl, own_mono ho h12.size, h12.trans (hb3.mono h12.size)⟩

end Go.Proofs.Ytnmgoeklcmoalab
