/-
  Contracts of the model's l1Both, l1Other, RelEither and l1Below: rows are met, taken from all points, joined and compared one by one; for relations.
-/
import Derived.Test.YtebkeebgjjmdbaaGreatDoorF
import Derived.Deep.RegionLaw
import Derived.Maps.AppendAt
namespace Go.Proofs.YtebkeebgjjmdbaaGreatDoor
open Go.RowKit

/-- append onto a row of the call's own, as one step of a region that draws -/
theorem step_append_own {P : Program} {ops : Array Oper} {o : Oper} {a : Act} {w : World} {K : Act → World → Prop} {Q : Exit → Act → World → Prop} {E : Prop}
    (hg : o.guard = none) (s x : Operand) (t : TypeId) (ho : o.op = Op.call { callee := Callee.builtin Builtin.append, args := #[s, x], argTypes := #[t, t] })
    (base : Nat) (e : TypeId) (i : TypeInfo) (z : Value) (size bytes : Nat) (ht : P.underlying t = some (.slice e)) (hi : P.info? e = some i) (hz : i.zero = some z)
    (hsize : i.size = size) (hby : i.bytes = bytes) (hzs : z.cells.size = size) (hsz : 0 < size)
    (v : Value) (n : Nat) (xs : List Value) (hs : a.eval s = v) (hown : w.ownsRow base e size v n xs)
    (ad : Addr) (m c : Nat) (news : List Value) (hx : a.eval x = .slice (some ad) m c) (hl : news.length = m * size) (hnews : ∀ j u, news[j]? = some u → w.cell? (ad.add j) = some u) (h1 : ∀ u ∈ news, u.oneCell' = true)
    (h63 : n + m ≤ maxLen) (hbytes : (n + m) * bytes ≤ 140737488355328) (hbase : base ≤ w.heap.size)
    (h : ∀ v' w', w'.ownsRow base e size v' (n + m) (xs ++ news) → w.grownBy w' v.ownBlock → K (a.put o.dst v') w') :
    if Region.wanted o (yielded ops a.tmps) = true then Oper.wp P o a w K Q else E := by
  have hw : Region.wanted o (yielded ops a.tmps) = true := by simp [Region.wanted, hg]
  rw [if_pos hw]
  exact wp_append_own w s x t ho base e i z size bytes ht hi hz hsize hby hzs hsz v n xs hs hown ad m c news hx hl hnews h1 h63 hbytes hbase fun v' w' h2 h3 _ => h v' w' h2 h3

theorem own_step {w wr w1 : World} {base : Nat} {e : TypeId} {size : Nat} {v : Value} {n : Nat} {xs : List Value} (ho : wr.ownsRow base e size v n xs) (hb : Below base w wr) (hs : base ≤ wr.heap.size) (o : Obj)
    (hg : ((wr.alloc o).drew).grownBy w1 v.ownBlock) : Below base w w1 :=
  ((hb.alloc hs o).drew).grown hg (by simp; omega) (fun k hk => (ho.lt k hk).1)
theorem own_step' {w wr w1 : World} {base : Nat} {e : TypeId} {size : Nat} {v : Value} {n : Nat} {xs : List Value} (ho : wr.ownsRow base e size v n xs) (hb : Below base w wr) (hs : base ≤ wr.heap.size) (o : Obj)
    (hg : (wr.alloc o).grownBy w1 v.ownBlock) : Below base w w1 :=
  (hb.alloc hs o).grown hg (by simp; omega) (fun k hk => (ho.lt k hk).1)

theorem row_lit0 (w : World) : (w.alloc (.cells #[] 3)).ownsRow w.heap.size 3 1 (.slice (some ⟨w.heap.size, 0, none⟩) 0 0) 0 [] :=
  World.ownsRow_lit w #[] 0 (Nat.le_refl _) (by unfold maxLen; omega) rfl

/-- rows met -/
def zipI (f : Int → Int → Int) (xs ys : List Int) : List Int := List.zipWith f xs ys

theorem zip_take (f : Int → Int → Int) (xs ys : List Int) (k : Nat) (x y : Int) (hx : xs[k]? = some x) (hy : ys[k]? = some y) :
    (zipI f xs ys).take (k + 1) = (zipI f xs ys).take k ++ [f x y] := by
  have h : (zipI f xs ys)[k]? = some (f x y) := by unfold zipI; rw [List.getElem?_zipWith, hx, hy]
  rw [List.take_add_one, h]
  rfl

set_option maxHeartbeats 1000000 in
theorem l1Both_any (ao bo : Option Addr) (ca cb : Nat) (xs ys : List Int) (w : World) (h4 : xs.length ≤ 4) (hn : xs.length = ys.length) (hx : Rd w ao xs) (hy : Rd w bo ys) :
    Calls Tryz.prog 58 #[.slice ao xs.length ca, .slice bo ys.length cb] w fun e w' => ∃ v, e = .returned v ∧
      w'.ownsRow w.heap.size 3 1 v xs.length ((zipI (bits .and .i64) xs ys).map (Value.int .i64)) ∧ Below w.heap.size w w' := by
  obtain ⟨i0, hi, hz0, hz1, hz2⟩ := info_parts Tryz.info3
  have HN := Lib.hid hn
  clear hn
  go_enter Tryz.func58, Tryz.ntmps58
  go_wp2
  go_loopw [5, 6] (fun v i wr => ∃ k : Nat, k ≤ xs.length ∧ i = .int .i64 k ∧ wr.ownsRow w.heap.size 3 1 v k (((zipI (bits .and .i64) xs ys).take k).map (Value.int .i64)) ∧ Below w.heap.size w wr)
    (fun _ i _ => xs.length - (intOf i).toNat)
  case atStart => exact ⟨0, Nat.zero_le _, rfl, row_lit0 w, below_one _ _⟩
  case round =>
    obtain ⟨k, hk, rfl, ho, hb⟩ := hrel
    by_cases hlt : k < xs.length
    · have hlt2 : k < ys.length := by rw [← HN.out]; exact hlt
      obtain ⟨b, off, x, hxk, rfl, hbl, hc1⟩ := (hx.below hb).get k hlt
      obtain ⟨b2, off2, y, hyk, rfl, hbl2, hc2⟩ := (hy.below hb).get k hlt2
      have hi1 : ((k : Nat) : Int) < (xs.length : Int) := by omega
      have hi2 : ((k : Nat) : Int) < (ys.length : Int) := by omega
      have HX := Lib.hid hxk
      have HY := Lib.hid hyk
      clear hx hy hxk hyk
      go_wp2
      go_region_law (refine step_append_own rfl (.tmp 14) (.tmp 24) 23 rfl w.heap.size 3 i0 (.int .i64 0) 1 8 Tryz.underlying23 hi hz0 hz1 hz2 rfl (by decide) _ _ _ rfl (ho.alloc _).drew ⟨wr.heap.size, 0, none⟩ 1 1 [.int .i64 (bits .and .i64 x y)] rfl rfl (cell_one_new _ _ _) (by simp [Value.oneCell']) (by unfold maxLen; omega) (by omega) (by have := hb.size; simp; omega) ?_; intro v' w1 hown' hgrow)
      all_goals
        have hb' := own_step ho hb hb.size _ hgrow
        rw [← List.map_singleton (f := Value.int .i64), ← List.map_append, ← zip_take _ _ _ _ _ _ HX.out HY.out] at hown'
        clear ho hb hgrow hc1 hc2
        go_wp2
        go_roundw
        case rel => exact ⟨k + 1, by omega, by go_num, hown', hb'⟩
        case measure => simp [intOf]; omega
    · go_wp2
      go_ret
      obtain rfl : k = xs.length := by omega
      rw [List.take_of_length_le (by unfold zipI; simp; omega)] at ho
      exact ⟨_, rfl, ho, hb⟩
end Go.Proofs.YtebkeebgjjmdbaaGreatDoor
