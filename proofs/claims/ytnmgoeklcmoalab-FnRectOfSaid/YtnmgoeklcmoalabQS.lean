/-
  The program's rank; for lists of at most 2^20 numbers.
-/
import Derived.Test.YtnmgoeklcmoalabQJ
import Derived.Test.YtnmgoeklcmoalabDD
import Derived.Test.YtnmgoeklcmoalabQE
import Derived.Test.YtnmgoeklcmoalabKX
import Derived.Deep.RegionHeldLaw
import Derived.StillTailTactics
import Derived.Laws.CopyRow
import Derived.Laws.EntriesVeiled
import Derived.Test.YtnmgoeklcmoalabEF
namespace Go.Proofs.Ytnmgoeklcmoalab
open Go.RowKit

theorem b_bitz : ∀ z : Fin 16, ∀ k : Fin 4, (bits .and .i64 ((z.val : Int) / 2 ^ k.val) 1 == 0) = !hasB (z.val : Int) k.val := by decide +kernel
/-- rectangles as lists -/
def FL (F : List (Int × Int)) : List (List Int) := F.map fun r => [r.1, r.2]
theorem FL_len (F : List (Int × Int)) : (FL F).length = F.length := List.length_map _
theorem FL_at {F : List (Int × Int)} {k : Nat} {r : Int × Int} (h : F[k]? = some r) : (FL F)[k]? = some [r.1, r.2] := by
  unfold FL
  rw [List.getElem?_map, h]
  rfl
/-- what the search keeps -/
def NoYet (n : Nat) (F : List (Int × Int)) (m : Nat) (zs : List Int) (q p d : Nat) : Prop := ∀ t r, t < d → F[t]? = some r → hasR r q p = true → ¬ CV n F m (minR n zs r)
theorem noYet_step {n : Nat} {F : List (Int × Int)} {m : Nat} {zs : List Int} {q p d : Nat} (h : NoYet n F m zs q p d) {g : Int × Int} (hg : F[d]? = some g) (hn : hasR g q p = true → ¬ CV n F m (minR n zs g)) : NoYet n F m zs q p (d + 1) := by
  intro t r ht hr e
  by_cases e2 : t = d
  · subst e2
    rw [hg] at hr
    cases hr
    exact hn e
  · exact h t r (by omega) hr e
theorem noYet_end {n : Nat} {F : List (Int × Int)} {m : Nat} {zs : List Int} {q p : Nat} (hz : Rl n zs) (hF : ∀ r, r ∈ F → isRect n r) (hq : q < n) (hp : p < n) (e : hB zs q p = true) (h : NoYet n F m zs q p F.length) : ¬ CV n F (m + 1) zs := by
  refine cv_no hz hF hq hp e fun r hr e2 => ?_
  obtain ⟨t, ht, rfl⟩ := List.mem_iff_getElem.1 hr
  exact h t _ ht (List.getElem?_eq_getElem ht) e2

end Go.Proofs.Ytnmgoeklcmoalab

namespace Go.Proofs.Ytnmgoeklcmoalab
open Go.RowKit

theorem own2_rdS {w : World} {lo hi : Nat} {v : Value} {F : List (Int × Int)} {gs : Nat → Nat} (h : Own2 w lo hi v F.length (PI F) gs) : ∃ ao cap, v = .slice ao F.length cap ∧ RdS w ao (FL F) := by
  obtain ⟨ao, cap, hv, hc⟩ := h.rd
  refine ⟨ao, cap, hv, fun k ys hk => ?_⟩
  have hlt : k < F.length := by
    have := (List.getElem?_eq_some_iff.1 hk).1
    rw [FL_len] at this
    exact this
  obtain ⟨r, hr⟩ : ∃ r, F[k]? = some r := ⟨_, List.getElem?_eq_getElem hlt⟩
  rw [FL_at hr] at hk
  cases hk
  obtain ⟨b, hb, hcell⟩ := hc k hlt
  obtain ⟨l2, o2⟩ := h.rows k hlt
  rw [PI_at hr] at l2 o2
  have hrow := o2.row
  have hvb := h.row.lt
  refine ⟨b, 0, some ⟨gs k, 0, none⟩, 2, hb, ?_, by rw [Nat.zero_add]; exact hcell, rd_own hrow rfl⟩
  subst hb
  rw [hv] at hvb
  exact (hvb b rfl).2

/-- a number, or 0 -/
def rkI (b : Bool) (k : Nat) : Int := if b then (k : Int) else 0

end Go.Proofs.Ytnmgoeklcmoalab

namespace Go.Proofs.Ytnmgoeklcmoalab
open Go.RowKit Go.Shelf
attribute [local go_sem] Oper.semAt_some

/-- block P holds these pairs, one behind the other -/
def PlcAt (W : World) (P : Nat) (L : List (Int × Int)) : Prop := W.heap[P]? = some (.cells (pairC L).toArray 55 (0, 0))
theorem PlcAt.lt {W : World} {P : Nat} {L : List (Int × Int)} (h : PlcAt W P L) : P < W.heap.size := (Array.getElem?_eq_some_iff.1 h).1
theorem PlcAt.cell {W : World} {P : Nat} {L : List (Int × Int)} (h : PlcAt W P L) {k : Nat} {p : Int × Int} (hk : L[k]? = some p) : W.cell? ⟨P, k * 2, none⟩ = some (.int .i64 p.1) ∧ W.cell? ⟨P, k * 2 + 1, none⟩ = some (.int .i64 p.2) := by
  obtain ⟨h1, h2⟩ := pairC_at L k p hk
  unfold PlcAt at h
  constructor
  · simp [World.cell?, h, h1]
  · simp [World.cell?, h, h2]
theorem PlcAt.free {W : World} {P : Nat} {L : List (Int × Int)} (h : PlcAt W P L) (j : Nat) : W.frozen? ⟨P, j, none⟩ = false := by
  unfold PlcAt at h
  simp [World.frozen?, h]
theorem PlcAt.drew {W : World} {P : Nat} {L : List (Int × Int)} (h : PlcAt W P L) : PlcAt W.drew P L := h
theorem PlcAt.below {W W' : World} {B P : Nat} {L : List (Int × Int)} (h : PlcAt W P L) (hb : Below B W W') (hlt : P < B) : PlcAt W' P L := (hb.block P hlt).trans h
theorem pairC_set : ∀ (L : List (Int × Int)) (k : Nat) (a b : Int), ((pairC L).set (k * 2) (.int .i64 a)).set (k * 2 + 1) (.int .i64 b) = if k < L.length then pairC (L.set k (a, b)) else pairC L
  | [], k, a, b => by simp [pairC]
  | p :: L, 0, a, b => by simp [pairC]
  | p :: L, k + 1, a, b => by
    have ih := pairC_set L k a b
    rw [show (k + 1) * 2 = k * 2 + 1 + 1 by omega]
    show Value.int .i64 p.1 :: Value.int .i64 p.2 :: (((pairC L).set (k * 2) (.int .i64 a)).set (k * 2 + 1) (.int .i64 b)) = _
    rw [ih]
    by_cases h : k < L.length
    · rw [if_pos h, if_pos (by simp; omega)]
      rfl
    · rw [if_neg h, if_neg (by simp; omega)]
      rfl
theorem PlcAt.set {W : World} {P : Nat} {L : List (Int × Int)} (h : PlcAt W P L) {k : Nat} (hk : k < L.length) (a b : Int) :
    PlcAt ((W.setCell ⟨P, k * 2, none⟩ (.int .i64 a)).setCell ⟨P, k * 2 + 1, none⟩ (.int .i64 b)) P (L.set k (a, b)) := by
  unfold PlcAt at h ⊢
  rw [Go.heap_setCell_same _ P (k * 2 + 1) _ _ _ (Go.heap_setCell_same W P (k * 2) _ _ _ h)]
  congr 2
  have := pairC_set L k a b
  rw [if_pos hk] at this
  rw [← this]
  simp

/-! two places exchanged -/
def swp (L : List (Int × Int)) (c i : Nat) : List (Int × Int) := (L.set c (L.getD i (0, 0))).set i (L.getD c (0, 0))
theorem swp_len (L : List (Int × Int)) (c i : Nat) : (swp L c i).length = L.length := by unfold swp; rw [List.length_set, List.length_set]
theorem swp_at (L : List (Int × Int)) (c i k : Nat) (hc : c < L.length) (hi : i < L.length) : (swp L c i)[k]? = if k = i then some (L.getD c (0, 0)) else if k = c then some (L.getD i (0, 0)) else L[k]? := by
  unfold swp
  rw [List.getElem?_set, List.getElem?_set]
  by_cases e : k = i
  · subst e
    rw [if_pos rfl, if_pos rfl, if_pos (by rw [List.length_set]; exact hi)]
  · rw [if_neg (fun h => e h.symm), if_neg e]
    by_cases e2 : k = c
    · subst e2
      rw [if_pos rfl, if_pos rfl, if_pos hc]
    · rw [if_neg (fun h => e2 h.symm), if_neg e2]
theorem getD_of {L : List (Int × Int)} {k : Nat} {p : Int × Int} (h : L[k]? = some p) : L.getD k (0, 0) = p := by rw [List.getD_eq_getElem?_getD, h]; rfl
theorem get_getD {L : List (Int × Int)} {k : Nat} (h : k < L.length) : L[k]? = some (L.getD k (0, 0)) := by rw [List.getD_eq_getElem?_getD, List.getElem?_eq_getElem h]; rfl
theorem swp_swp (L : List (Int × Int)) (c i : Nat) (hc : c < L.length) (hi : i < L.length) : swp (swp L c i) c i = L := by
  apply List.ext_getElem?
  intro k
  have hl := swp_len L c i
  rw [swp_at _ c i k (by rw [hl]; exact hc) (by rw [hl]; exact hi)]
  have hci : (swp L c i).getD c (0, 0) = L.getD i (0, 0) := getD_of (by
    rw [swp_at L c i c hc hi]
    by_cases e : c = i
    · subst e
      rw [if_pos rfl]
    · rw [if_neg e, if_pos rfl])
  have hii : (swp L c i).getD i (0, 0) = L.getD c (0, 0) := getD_of (by rw [swp_at L c i i hc hi, if_pos rfl])
  rw [hci, hii]
  by_cases e : k = i
  · subst e
    rw [if_pos rfl, get_getD hi]
  · rw [if_neg e]
    by_cases e2 : k = c
    · subst e2
      rw [if_pos rfl, get_getD hc]
    · rw [if_neg e2, swp_at L c i k hc hi, if_neg e, if_neg e2]

/-- what lies in the places, some having been chosen: those behind the place nx lie as they lay -/
structure Lie (F L : List (Int × Int)) (px : List (Int × Int)) (nx : Nat) : Prop where
  len : L.length = F.length
  pre : L.take px.length = px
  rest : ∀ j, nx ≤ j → L[j]? = F[j]?
  le : px.length ≤ nx
  top : px.length ≤ F.length
theorem Lie.next {F L px : List (Int × Int)} {nx i : Nat} (h : Lie F L px nx) (hi : nx ≤ i) (hF : i < F.length) : Lie F (swp L px.length i) (px ++ [F.getD i (0, 0)]) (i + 1) := by
  have hle := h.le
  have hl := h.len
  have hc : px.length < L.length := by omega
  have hi2 : i < L.length := by omega
  have hF2 : L.getD i (0, 0) = F.getD i (0, 0) := by rw [List.getD_eq_getElem?_getD, List.getD_eq_getElem?_getD, h.rest i hi]
  refine ⟨by rw [swp_len, hl], ?_, fun j hj => ?_, by rw [List.length_append]; simp; omega, by rw [List.length_append]; simp; omega⟩
  · apply List.ext_getElem?
    intro k
    rw [List.getElem?_take, List.length_append, List.length_singleton]
    by_cases hk : k < px.length + 1
    · rw [if_pos hk, swp_at L _ i k hc hi2]
      by_cases e : k = i
      · subst e
        have hkp : k = px.length := by omega
        rw [if_pos rfl, ← hkp, hF2, hkp, List.getElem?_append_right (Nat.le_refl _), Nat.sub_self]
        rfl
      · rw [if_neg e]
        by_cases e2 : k = px.length
        · rw [if_pos e2, hF2, e2, List.getElem?_append_right (Nat.le_refl _), Nat.sub_self]
          rfl
        · rw [if_neg e2, List.getElem?_append_left (by omega)]
          have := congrArg (fun l => l[k]?) h.pre
          rw [List.getElem?_take, if_pos (by omega)] at this
          exact this
    · rw [if_neg hk, List.getElem?_eq_none (by simp; omega)]
  · rw [swp_at L _ i j hc hi2, if_neg (by omega), if_neg (by omega)]
    exact h.rest j (by omega)
theorem Lie.leaf {F L px : List (Int × Int)} {nx : Nat} (h : Lie F L px nx) {k : Nat} {p : Int × Int} (hk : px[k]? = some p) : L[k]? = some p := by
  have hlt := (List.getElem?_eq_some_iff.1 hk).1
  have := congrArg (fun l => l[k]?) h.pre
  rw [List.getElem?_take, if_pos hlt] at this
  rw [this, hk]

/-! the closure's memory -/
abbrev ppV (P N : Nat) : Value := .slice (some ⟨P, 0, none⟩) N N
structure CtxC (W : World) (Bs By Bp Bg l P size N : Nat) : Prop where
  s : Boxed W Bs 3 (.int .i64 size)
  y : Boxed W By 105 (.func (.yield l) #[] #[])
  p : Boxed W Bp 50 (ppV P N)
  g : Boxed W Bg 71 (.func (.func 92) #[] #[.pointer (some ⟨Bs, 0, none⟩), .pointer (some ⟨By, 0, none⟩), .pointer (some ⟨Bp, 0, none⟩), .pointer (some ⟨Bg, 0, none⟩)])
/-- none of the closure's own blocks is X or P -/
structure Off (Bs By Bp Bg P X : Nat) : Prop where
  s : Bs ≠ X ∧ Bs ≠ P
  y : By ≠ X ∧ By ≠ P
  p : Bp ≠ X ∧ Bp ≠ P
  g : Bg ≠ X ∧ Bg ≠ P
theorem CtxC.keep {W W' : World} {Bs By Bp Bg l P size N X : Nat} (h : CtxC W Bs By Bp Bg l P size N) (k : KeepX X (ppV P N) W W') (ho : Off Bs By Bp Bg P X) : CtxC W' Bs By Bp Bg l P size N := by
  have hne : ∀ b, b ≠ P → some b ≠ (ppV P N).ownBlock := fun b hb e => hb (Option.some.inj e)
  exact ⟨k.2 _ _ ho.s.1 (hne _ ho.s.2) h.s rfl, k.2 _ _ ho.y.1 (hne _ ho.y.2) h.y rfl, k.2 _ _ ho.p.1 (hne _ ho.p.2) h.p rfl, k.2 _ _ ho.g.1 (hne _ ho.g.2) h.g rfl⟩
theorem keepX_cell {X P N : Nat} {W : World} (j : Nat) (v : Value) : KeepX X (ppV P N) W (W.setCell ⟨P, j, none⟩ v) :=
  ⟨(KeepsOthers.setCell W ⟨P, j, none⟩ v).size, fun b _ _ hv hb _ => (Below.heap_setCell W ⟨P, j, none⟩ v b (fun e => hv (by rw [e]; rfl))).trans hb⟩

/-- what the range's body does with a choice -/
def YieldsC (l X B0 : Nat) (cs : List (List (Int × Int))) (J Jx : List (List (Int × Int)) → World → Prop) : Prop :=
  ∀ pre x P W, (∃ rest, cs = pre ++ x :: rest) → J pre W → B0 ≤ P → P < W.heap.size → PrRd W (some ⟨P, 0, none⟩) x →
    ∀ m, YieldAt Fence.wide m Try.prog l #[.slice (some ⟨P, 0, none⟩) x.length x.length] W fun e W' => ∃ b : Bool, e = .returned (.bool b) ∧ KeepX X (.slice none 0 0) W W' ∧ (b = true → J (pre ++ [x]) W') ∧ (b = false → Jx (pre ++ [x]) W')

def GoPostC (X P N : Nat) (J Jx : List (List (Int × Int)) → World → Prop) (done : List (List (Int × Int))) (L : List (Int × Int)) (W : World) (e : Ending) (W' : World) : Prop :=
  ∃ b : Bool, e = .returned (.bool b) ∧ KeepX X (ppV P N) W W' ∧ (b = true → PlcAt W' P L ∧ J done W') ∧ (b = false → ∃ p, Jx p W')

theorem plc_prRd {F L px : List (Int × Int)} {nx P : Nat} {W : World} (h : PlcAt W P L) (hl : Lie F L px nx) : PrRd W (some ⟨P, 0, none⟩) px :=
  fun _ _ hk => ⟨P, rfl, h.lt, (h.cell (hl.leaf hk)).1, (h.cell (hl.leaf hk)).2⟩

set_option maxRecDepth 100000 in
set_option maxHeartbeats 8000000 in
theorem choose_leaf {l X B0 Bs By Bp Bg P N size : Nat} {cs : List (List (Int × Int))} {J Jx : List (List (Int × Int)) → World → Prop} {F L px : List (Int × Int)} {nx : Nat}
    (hJ : ∀ p A B, J p A → Below B0 A B → J p B) (hY : YieldsC l X B0 cs J Jx) (hX : X < B0) (hP : B0 ≤ P) (hN : F.length = N)
    (hl : Lie F L px nx) (hs : px.length = size) (W : World) (pre : List (List (Int × Int))) (hc : CtxC W Bs By Bp Bg l P size N) (hp : PlcAt W P L) (hj : J pre W) (hw : ∃ rest, cs = pre ++ px :: rest) :
    Calls Try.prog 92 #[.int .i64 size, .int .i64 nx, .pointer (some ⟨Bs, 0, none⟩), .pointer (some ⟨By, 0, none⟩), .pointer (some ⟨Bp, 0, none⟩), .pointer (some ⟨Bg, 0, none⟩)] W (GoPostC X P N J Jx (pre ++ [px]) L W) := by
  refine (callsIn_wide (n := 6)).1 ?_
  have hmo : Try.prog.follows .mixedOrders = true := by kernel_rfl
  have cz := hc.s.cell
  have cy := hc.y.cell
  have cp := hc.p.cell
  have htop := hl.top
  have hs2 : (size : Int) ≤ (N : Int) := by omega
  have hs0 : (0 : Int) ≤ (size : Int) := by omega
  obtain ⟨fn, tmps, assign, body, hy, hR⟩ := hY pre px P W.drew hw (hJ pre W W.drew hj ((Below.refl _ W).drew)) hP hp.lt (plc_prRd hp.drew hl) 5
  rw [hs] at hy
  have H := Lib.hid (And.intro hp (And.intro hX hP))
  clear hJ hY hw hj hX hP hc hl hs htop hp
  refine callsIn_of_wp Try.func92 rfl trivial ?_ rfl
  simp only [Try.ntmps92, List.size_toArray, List.length_cons, List.length_nil, Nat.reduceAdd, Nat.reduceSub, Array.replicate_succ, Array.replicate_zero, List.push_toArray, List.append_toArray, List.nil_append, List.cons_append]
  gi_wp2
  gi_region_with_o (refine hR.mono ?_; rintro e w3 ⟨b, rfl, hb⟩)
  all_goals
    gi_wp2
    go_ret
    have hpl : PlcAt w3 P L := hb.1.2 P _ (by have := H.out.2.1; have := H.out.2.2; omega) (by simp [Value.ownBlock]) H.out.1 rfl
    exact ⟨b, rfl, keepX_nil hb.1, fun h => ⟨hpl, hb.2.1 h⟩, fun h => ⟨_, hb.2.2 h⟩⟩
end Go.Proofs.Ytnmgoeklcmoalab

namespace Go.Proofs.Ytnmgoeklcmoalab
open Go.RowKit Go.Shelf
attribute [local go_sem] Oper.semAt_some

theorem cf_choose (args : Array Value) (w : World) : Sem.run Try.prog (callFunc 92 args) w = .ok (.enter 92 args) w := by kernel_rfl
/-- a region, and what follows it, apart: a proof of what follows that stands within the region's is copied for each order -/
theorem wp_via {P : Program} {c : Code} {Q : Exit → Act → World → Prop} {a : Act} {w : World} {F : Act} {W : World} (h : c.wp P (Exit.then (fun a' w' => a' = F ∧ w' = W) fun _ _ _ => False) a w) (k : Q .normal F W) : c.wp P Q a w :=
  wp_mono h fun e a' w' hq => by
    cases e with
    | normal =>
      obtain ⟨rfl, rfl⟩ := hq
      exact k
    | _ => exact False.elim hq
/-- two places exchanged, in the world -/
def swW (W : World) (P c i : Nat) (x y : Int × Int) : World :=
  (((W.setCell ⟨P, c * 2, none⟩ (.int .i64 y.1)).setCell ⟨P, c * 2 + 1, none⟩ (.int .i64 y.2)).setCell ⟨P, i * 2, none⟩ (.int .i64 x.1)).setCell ⟨P, i * 2 + 1, none⟩ (.int .i64 x.2)
theorem swW_plc {W : World} {P c i : Nat} {L : List (Int × Int)} {x y : Int × Int} (h : PlcAt W P L) (hc : L[c]? = some x) (hi : L[i]? = some y) : PlcAt (swW W P c i x y) P (swp L c i) := by
  have h1 := h.set (k := c) (List.getElem?_eq_some_iff.1 hc).1 y.1 y.2
  have h2 := h1.set (k := i) (by rw [List.length_set]; exact (List.getElem?_eq_some_iff.1 hi).1) x.1 x.2
  unfold swp
  rw [getD_of hc, getD_of hi]
  exact h2
theorem swW_keep {W : World} {X P N c i : Nat} (x y : Int × Int) : KeepX X (ppV P N) W (swW W P c i x y) :=
  (((keepX_cell _ _).trans (keepX_cell _ _)).trans (keepX_cell _ _)).trans (keepX_cell _ _)
theorem swW_below {W : World} {B P c i : Nat} (x y : Int × Int) (h : B ≤ P) : Below B W (swW W P c i x y) :=
  ((((Below.refl B W).setCell (p := ⟨P, c * 2, none⟩) h _).setCell (p := ⟨P, c * 2 + 1, none⟩) h _).setCell (p := ⟨P, i * 2, none⟩) h _).setCell (p := ⟨P, i * 2 + 1, none⟩) h _
theorem swW_size (W : World) (P c i : Nat) (x y : Int × Int) : (swW W P c i x y).heap.size = W.heap.size := by unfold swW; simp

theorem set_some {W : World} {P j k : Nat} {cs : Array Value} {t : TypeId} (h : W.heap[P]? = some (.cells cs t (0, 0))) (hk : k < cs.size) (v : Value) : ∃ u, (W.setCell ⟨P, j, none⟩ v).cell? ⟨P, k, none⟩ = some u := by
  have := Go.heap_setCell_same W P j cs t v h
  exact ⟨(cs.setIfInBounds j v)[k]'(by simp; exact hk), by simp [World.cell?, this, hk]⟩
/-- one call of the closure, m being left -/
def ChoosesP (l X _B0 Bs By Bp Bg P N size : Nat) (F : List (Int × Int)) (cs : List (List (Int × Int))) (J Jx : List (List (Int × Int)) → World → Prop) (m : Nat) : Prop :=
  ∀ (L px : List (Int × Int)) (nx : Nat) (W : World) (pre : List (List (Int × Int))), Lie F L px nx → px.length + m = size → nx ≤ N → CtxC W Bs By Bp Bg l P size N → PlcAt W P L → J pre W → (∃ rest, cs = pre ++ gC F m px nx ++ rest) →
    Calls Try.prog 92 #[.int .i64 px.length, .int .i64 nx, .pointer (some ⟨Bs, 0, none⟩), .pointer (some ⟨By, 0, none⟩), .pointer (some ⟨Bp, 0, none⟩), .pointer (some ⟨Bg, 0, none⟩)] W (GoPostC X P N J Jx (pre ++ gC F m px nx) L W)

set_option maxRecDepth 100000 in
set_option maxHeartbeats 8000000 in
theorem choose_step {l X B0 Bs By Bp Bg P N size m : Nat} {cs : List (List (Int × Int))} {J Jx : List (List (Int × Int)) → World → Prop} {F : List (Int × Int)}
    (hJ : ∀ p A B, J p A → Below B0 A B → J p B) (hX : X < B0) (hP : B0 ≤ P) (hN : F.length = N) (hN2 : N ≤ 1000) (hO : Off Bs By Bp Bg P X)
    (ih : ChoosesP l X B0 Bs By Bp Bg P N size F cs J Jx m) : ChoosesP l X B0 Bs By Bp Bg P N size F cs J Jx (m + 1) := by
  intro L px nx W pre hl hs hnx hc hp hj hw
  have hmo : Try.prog.follows .mixedOrders = true := by kernel_rfl
  have hcf := cf_choose
  have cz := hc.s.cell
  have hle := hl.le
  have hne : ((px.length : Int) == (size : Int)) = false := beq_eq_false_iff_ne.2 (by omega)
  have H := Lib.hid (And.intro hJ (And.intro hX (And.intro hP (And.intro hN (And.intro hO (And.intro ih (And.intro hl (And.intro hs hw))))))))
  have HS := Lib.hid (And.intro hc (And.intro hp hj))
  obtain ⟨c, hcl⟩ : ∃ c, px.length = c := ⟨_, rfl⟩
  have HCL := Lib.hid hcl
  rw [hcl] at hne hle ⊢
  clear hJ hX hP hN hO ih hl hs hw hc hp hj hcl
  go_enter Try.func92, Try.ntmps92
  go_wp2
  go_loopw [9] (fun i wr => ∃ d : Nat, nx + d ≤ N ∧ i = .int .i64 ((nx + d : Nat) : Int) ∧ CtxC wr Bs By Bp Bg l P size N ∧ PlcAt wr P L ∧ KeepX X (ppV P N) W wr ∧ J (pre ++ gTo F m px nx d) wr)
    (fun i _ => N - (intOf i).toNat)
  case atStart => exact ⟨0, by omega, rfl, HS.out.1, HS.out.2.1, KeepX.refl _ _ _, by rw [show gTo F m px nx 0 = [] from rfl, List.append_nil]; exact HS.out.2.2⟩
  case round =>
    clear HS cz hne
    obtain ⟨d, hd, rfl, hc, hp, hk, hj⟩ := hrel
    have cp := hc.p.cell
    obtain ⟨i, hi⟩ : ∃ i, nx + d = i := ⟨_, rfl⟩
    have HI := Lib.hid hi
    rw [hi] at hd ⊢
    by_cases hlt : i < N
    · have hil : i < L.length := by rw [H.out.2.2.2.2.2.2.1.len, H.out.2.2.2.1]; exact hlt
      have hcl : c < L.length := by omega
      obtain ⟨x, hx⟩ : ∃ x, L[c]? = some x := ⟨_, List.getElem?_eq_getElem hcl⟩
      obtain ⟨y, hy⟩ : ∃ y, L[i]? = some y := ⟨_, List.getElem?_eq_getElem hil⟩
      obtain ⟨cx0, cx1⟩ := hp.cell hx
      obtain ⟨cy0, cy1⟩ := hp.cell hy
      have fx0 := hp.free (c * 2)
      have fx1 := hp.free (c * 2 + 1)
      have fy0 := hp.free (i * 2)
      have fy1 := hp.free (i * 2 + 1)
      have hpl : (pairC L).toArray.size = L.length * 2 := by simp [pairC_len]
      obtain ⟨u0, g0⟩ := set_some (j := c * 2) (k := i * 2) hp (by omega) (.int .i64 y.1)
      obtain ⟨u1, g1⟩ := set_some (j := c * 2 + 1) (k := i * 2 + 1) (Go.heap_setCell_same wr P (c * 2) _ _ (.int .i64 y.1) hp) (by rw [Array.size_setIfInBounds]; omega) (.int .i64 y.2)
      clear hpl
      have hi1 : (i : Int) < (N : Int) := by omega
      have hc1 : (c : Int) < (N : Int) := by omega
      have HQ := Lib.hid (And.intro hc (And.intro hp (And.intro hk (And.intro hj (And.intro hx hy)))))
      clear hc hp hk hj hx hy
      obtain ⟨W2, hW2⟩ : ∃ W2, ((((wr.setCell ⟨P, c * 2, none⟩ (.int .i64 y.1)).setCell ⟨P, c * 2 + 1, none⟩ (.int .i64 y.2)).setCell ⟨P, i * 2, none⟩ (.int .i64 x.1)).setCell ⟨P, i * 2 + 1, none⟩ (.int .i64 x.2)).drew = W2 := ⟨_, rfl⟩
      have HW2 := Lib.hid hW2
      have e2 : (swW wr P c i x y).drew = W2 := hW2
      have k2 : KeepX X (ppV P N) wr W2 := e2 ▸ (swW_keep x y).trans (KeepX.drew _)
      have p2 : PlcAt W2 P (swp L c i) := e2 ▸ (swW_plc HQ.out.2.1 HQ.out.2.2.2.2.1 HQ.out.2.2.2.2.2).drew
      have b2 : Below B0 wr W2 := e2 ▸ (swW_below x y H.out.2.2.1).drew
      have c2 := HQ.out.1.keep k2 H.out.2.2.2.2.1
      have j2 := H.out.1 _ _ _ HQ.out.2.2.2.1 b2
      have hle2 : px.length ≤ nx := H.out.2.2.2.2.2.2.1.le
      have l2 := H.out.2.2.2.2.2.2.1.next (i := i) (by have := HI.out; omega) (by rw [H.out.2.2.2.1]; exact hlt)
      have cg := HQ.out.1.g.cell
      have nG : ¬ Bg = P := H.out.2.2.2.2.1.g.2
      have nB : ¬ Bp = P := H.out.2.2.2.2.1.p.2
      obtain ⟨rest, hr⟩ := H.out.2.2.2.2.2.2.2.2
      obtain ⟨r2, hr2⟩ := gTo_split F m px nx d (by rw [H.out.2.2.2.1]; have := HI.out; omega)
      have hgs := gTo_succ F m px nx d
      rw [HI.out] at hgs
      rw [hgs] at hr2
      have call := H.out.2.2.2.2.2.1 (swp L px.length i) (px ++ [F.getD i (0, 0)]) (i + 1) W2 (pre ++ gTo F m px nx d) l2 (by rw [List.length_append, List.length_singleton]; have := H.out.2.2.2.2.2.2.2.1; omega) (by omega) c2 (by rw [HCL.out]; exact p2) j2 ⟨r2 ++ rest, by rw [hr, hr2]; simp only [List.append_assoc]⟩
      rw [List.append_assoc, ← hgs, List.length_append, List.length_singleton, HCL.out] at call
      have HC := Lib.hid (And.intro call (And.intro k2 c2))
      clear call k2 p2 b2 j2 l2 hr hr2 hgs hW2 e2 hle2 c2
      go_wp2
      apply wp_via
      case h =>
        go_region
        all_goals exact ⟨rfl, rfl⟩
      case k =>
        go_wp2_with fail
        rw [HW2.out]
        refine HC.out.1.mono ?_
        rintro e w5 ⟨b, rfl, hk5, ht, hf⟩
        have k5 := HC.out.2.1.trans hk5
        have c5 := HC.out.2.2.keep hk5 H.out.2.2.2.2.1
        clear hk5
        cases b with
        | false =>
          have HB := Lib.hid (And.intro ((HQ.out.2.2.1).trans k5) (hf rfl))
          clear ht hf k5 c5 HW2 HC g0 g1 cx0 cx1 cy0 cy1 fx0 fx1 fy0 fy1 cp cg nG nB
          go_wp2
          go_ret
          exact ⟨false, rfl, HB.out.1, fun h => Bool.noConfusion h, fun _ => HB.out.2⟩
        | true =>
          obtain ⟨p5, j5⟩ := ht rfl
          clear ht hf HW2 HC g0 g1 cx0 cx1 cy0 cy1 fx0 fx1 fy0 fy1 cp cg nG
          have hsl := swp_len L c i
          have hsc : (swp L c i)[c]? = some y := by
            rw [swp_at L c i c hcl hil]
            by_cases e : c = i
            · subst e
              rw [if_pos rfl, ← HQ.out.2.2.2.2.2, get_getD hcl]
            · rw [if_neg e, if_pos rfl, getD_of HQ.out.2.2.2.2.2]
          have hsi : (swp L c i)[i]? = some x := by
            rw [swp_at L c i i hcl hil, if_pos rfl, getD_of HQ.out.2.2.2.2.1]
          obtain ⟨cx0, cx1⟩ := p5.cell hsc
          obtain ⟨cy0, cy1⟩ := p5.cell hsi
          have fx0 := p5.free (c * 2)
          have fx1 := p5.free (c * 2 + 1)
          have fy0 := p5.free (i * 2)
          have fy1 := p5.free (i * 2 + 1)
          have cp := c5.p.cell
          have hpl : (pairC (swp L c i)).toArray.size = L.length * 2 := by simp [pairC_len, hsl]
          obtain ⟨u2, g0⟩ := set_some (j := c * 2) (k := i * 2) p5 (by omega) (.int .i64 x.1)
          obtain ⟨u3, g1⟩ := set_some (j := c * 2 + 1) (k := i * 2 + 1) (Go.heap_setCell_same w5 P (c * 2) _ _ (.int .i64 x.1) p5) (by rw [Array.size_setIfInBounds]; omega) (.int .i64 x.2)
          obtain ⟨W6, hW6⟩ : ∃ W6, ((((w5.setCell ⟨P, c * 2, none⟩ (.int .i64 x.1)).setCell ⟨P, c * 2 + 1, none⟩ (.int .i64 x.2)).setCell ⟨P, i * 2, none⟩ (.int .i64 y.1)).setCell ⟨P, i * 2 + 1, none⟩ (.int .i64 y.2)).drew = W6 := ⟨_, rfl⟩
          have HW6 := Lib.hid hW6
          have e6 : (swW w5 P c i y x).drew = W6 := hW6
          have k6 : KeepX X (ppV P N) w5 W6 := e6 ▸ (swW_keep y x).trans (KeepX.drew _)
          have p6 : PlcAt W6 P (swp (swp L c i) c i) := e6 ▸ (swW_plc p5 hsc hsi).drew
          rw [swp_swp L c i hcl hil] at p6
          have b6 : Below B0 w5 W6 := e6 ▸ (swW_below y x H.out.2.2.1).drew
          have HF := Lib.hid (And.intro (c5.keep k6 H.out.2.2.2.2.1) (And.intro p6 (And.intro (HQ.out.2.2.1.trans (k5.trans k6)) (H.out.1 _ _ _ j5 b6))))
          clear hpl hsl hsc hsi p5 j5 k5 c5 hW6 e6 k6 p6 b6
          go_wp2
          apply wp_via
          case h =>
            go_region
            all_goals exact ⟨rfl, rfl⟩
          case k =>
            go_wp2
            rw [HW6.out]
            go_roundw
            case rel => exact ⟨d + 1, by have := HI.out; omega, by rw [← Nat.add_assoc, HI.out]; go_num, HF.out⟩
            case measure => simp [intOf]; omega
    · have hiN : i = N := by omega
      have hdd : d = F.length - nx := by rw [H.out.2.2.2.1]; have := HI.out; omega
      have HB := Lib.hid (And.intro hk (And.intro hp (by rw [hdd, gTo_all] at hj; exact hj : J (pre ++ gC F (m + 1) px nx) wr)))
      have hi1 : ¬ (i : Int) < (N : Int) := by omega
      clear hc hk hp hj hdd hiN
      go_wp2
      go_ret
      exact ⟨true, rfl, HB.out.1, fun _ => HB.out.2, fun h => Bool.noConfusion h⟩
end Go.Proofs.Ytnmgoeklcmoalab

namespace Go.Proofs.Ytnmgoeklcmoalab
open Go.RowKit Go.Shelf
attribute [local go_sem] Oper.semAt_some

/-- the closure, whatever is left -/
theorem choose_any {l X B0 Bs By Bp Bg P N size : Nat} {cs : List (List (Int × Int))} {J Jx : List (List (Int × Int)) → World → Prop} {F : List (Int × Int)}
    (hJ : ∀ p A B, J p A → Below B0 A B → J p B) (hY : YieldsC l X B0 cs J Jx) (hX : X < B0) (hP : B0 ≤ P) (hN : F.length = N) (hN2 : N ≤ 1000) (hO : Off Bs By Bp Bg P X) : ∀ m, ChoosesP l X B0 Bs By Bp Bg P N size F cs J Jx m
  | 0 => by
    intro L px nx W pre hl hs hnx hc hp hj hw
    obtain ⟨rest, hr⟩ := hw
    have hs2 : px.length = size := by omega
    rw [show gC F 0 px nx = [px] from rfl] at hr ⊢
    have := choose_leaf (nx := nx) hJ hY hX hP hN hl hs2 W pre hc hp hj ⟨rest, by rw [hr]; simp⟩
    rw [hs2]
    exact this
  | m + 1 => choose_step hJ hX hP hN hN2 hO (choose_any hJ hY hX hP hN hN2 hO m)

section
variable {P : Program}
/-- copy of all elements of two cells each -/
theorem run_copy2 (w : World) (dT sT ty elem : TypeId) (g n dCap : Nat) (a : Addr) (sCap : Nat) (cur : Array Value) (t : TypeId) (cs : List Value)
    (hu : P.underlying dT = some (.slice elem)) (hs : (P.info? elem).map (·.size) = some 2) (hg : w.heap[g]? = some (.cells cur t (0, 0))) (hn : cs.length = n * 2) (hc : cur.size = n * 2)
    (hsrc : ∀ j v, cs[j]? = some v → w.cell? (a.add j) = some v) (h1 : ∀ v ∈ cs, v.oneCell' = true) :
    (Builtin.copy_ #[dT, sT] ty #[.slice (some ⟨g, 0, none⟩) n dCap, .slice (some a) n sCap]).run P w = .ok (goInt n) (w.setRow g cs.toArray) := by
  have hl := run_loadCells_list (P := P) w a cs hsrc
  have hst := run_storeCells_at P g 0 t cs 0 cur w hg (by omega) h1
  have hd : cur.toList.drop cs.length = [] := List.drop_eq_nil_of_le (by rw [Array.length_toList]; omega)
  simp only [Nat.add_zero, Nat.zero_add, List.take_zero, List.nil_append, hd, List.append_nil] at hst
  cases hq : P.info? elem with
  | none => simp [hq] at hs
  | some i =>
    have hi : i.size = 2 := by simpa [hq] using hs
    simp [Builtin.copy_, run_underlying hu, Builtin.lenOf, Builtin.firstCells, sizeOf, typeInfo, hq, hi, ← hn, hl, hst]
theorem wpList_copy2 {w : World} {ops : Array Oper} {rest : List Oper} {o : Oper} {a : Act} {Q : Exit → Act → World → Prop} (hgd : o.guard = none) (d s : Operand) (dT sT : TypeId)
    (ho : o.op = .call { callee := .builtin .copy, args := #[d, s], argTypes := #[dT, sT] }) (elem : TypeId) (hu : P.underlying dT = some (.slice elem)) (hsz : (P.info? elem).map (·.size) = some 2)
    (g n dCap : Nat) (ad : Addr) (sCap : Nat) (hd : a.eval d = .slice (some ⟨g, 0, none⟩) n dCap) (hs : a.eval s = .slice (some ad) n sCap)
    (cur : Array Value) (t : TypeId) (hg : w.heap[g]? = some (.cells cur t (0, 0))) (cs : List Value) (hn : cs.length = n * 2) (hc : cur.size = n * 2)
    (hsrc : ∀ j v, cs[j]? = some v → w.cell? (ad.add j) = some v) (h1 : ∀ v ∈ cs, v.oneCell' = true)
    (h : ∀ w', w'.heap[g]? = some (.cells cs.toArray t (0, 0)) → (∀ b, b ≠ g → w'.heap[b]? = w.heap[b]?) → w'.heap.size = w.heap.size → (∀ B, B ≤ g → Below B w w') → wpList P ops Q rest (a.put o.dst (goInt n)) w') : wpList P ops Q (o :: rest) a w := by
  refine wpList_plain hgd fun K hK => ?_
  have hrun := run_copy2 (P := P) w dT sT o.type elem g n dCap ad sCap cur t cs hu hsz hg hn hc hsrc h1
  unfold Oper.wp
  simp [execOp, ho, resolve, invoke, builtin, hd, hs, hrun, Result.andThen]
  exact hK _ _ (h _ (setRow_heap w g cur _ t _ hg) (fun b hb => setRow_other w g b _ hb) (by simp [World.setRow]) (fun B hB => ⟨rfl, rfl, rfl, by simp [World.setRow], fun k hk => setRow_other w g k _ (by omega)⟩))
end

theorem pairC_cell {W : World} {R : Nat} {F : List (Int × Int)} (h : PrRd W (some ⟨R, 0, none⟩) F) : ∀ j v, (pairC F)[j]? = some v → W.cell? ((⟨R, 0, none⟩ : Addr).add j) = some v := by
  intro j v hv
  have hadd : (⟨R, 0, none⟩ : Addr).add j = ⟨R, j, none⟩ := by unfold Addr.add; split <;> simp_all
  rw [hadd]
  have hlt : j < F.length * 2 := by
    have := (List.getElem?_eq_some_iff.1 hv).1
    rw [pairC_len] at this
    exact this
  obtain ⟨p, hp⟩ : ∃ p, F[j / 2]? = some p := ⟨_, List.getElem?_eq_getElem (by omega)⟩
  obtain ⟨a, b⟩ := pairC_at F (j / 2) p hp
  obtain ⟨q, hq, _, c0, c1⟩ := h (j / 2) p hp
  cases hq
  rcases (by omega : j = j / 2 * 2 ∨ j = j / 2 * 2 + 1) with e | e
  · rw [e] at hv ⊢
    rw [a] at hv
    cases hv
    exact c0
  · rw [e] at hv ⊢
    rw [b] at hv
    cases hv
    exact c1
theorem pairC_one (F : List (Int × Int)) : ∀ v ∈ pairC F, v.oneCell' = true := by
  induction F with
  | nil => intro v hv; cases hv
  | cons p r ih =>
    intro v hv
    rcases List.mem_cons.1 hv with rfl | hv
    · rfl
    · rcases List.mem_cons.1 hv with rfl | hv
      · rfl
      · exact ih v hv

set_option maxRecDepth 100000 in
set_option maxHeartbeats 4000000 in
/-- the sequence, called with a range's yield -/
theorem tried1_any {l X Br Bs R cap size : Nat} {F : List (Int × Int)} {cs : List (List (Int × Int))} {J Jx : List (List (Int × Int)) → World → Prop} (W : World)
    (hJ : ∀ p A B, J p A → Below W.heap.size A B → J p B) (hY : YieldsC l X W.heap.size cs J Jx) (hX : X < W.heap.size) (hBX : Bs ≠ X)
    (hr : Boxed W Br 50 (.slice (some ⟨R, 0, none⟩) F.length cap)) (hs : Boxed W Bs 3 (.int .i64 size)) (hF : PrRd W (some ⟨R, 0, none⟩) F) (hN2 : F.length ≤ 1000)
    (hcs : cs = gC F size [] 0) (hp : J [] W) :
    Calls Try.prog 91 #[.func (.yield l) #[] #[], .pointer (some ⟨Br, 0, none⟩), .pointer (some ⟨Bs, 0, none⟩)] W fun e W' => (∃ v, e = .returned v) ∧ (J cs W' ∨ ∃ p, Jx p W') := by
  obtain ⟨i0, hi, hz0, hz1, hz2⟩ := info_parts Try.infoP55
  have hmf : ∀ (fn : Fn) (first cap : Array Value) (w : World), Sem.run Try.prog (Instr.makeFunc fn first cap) w = .ok (.func fn first cap) w := fun _ _ _ _ => rfl
  have hcf := cf_choose
  have hbl := hs.lt
  have hrl := hr.lt
  obtain ⟨N, hN⟩ : ∃ N, F.length = N := ⟨_, rfl⟩
  have H := Lib.hid (fun (W2 : World) (P Bp Bg : Nat) (hO : Off Bs W.heap.size Bp Bg P X) (hP : W.heap.size ≤ P) (hc : CtxC W2 Bs W.heap.size Bp Bg l P size N) (hpl : PlcAt W2 P F) (hB : Below W.heap.size W W2) =>
    choose_any (size := size) (F := F) hJ hY hX hP hN (by omega) hO size F [] 0 W2 [] ⟨rfl, rfl, fun _ _ => rfl, Nat.le_refl _, Nat.zero_le _⟩ (by simp) (Nat.zero_le _) hc hpl (hJ _ _ _ hp hB) ⟨[], by rw [hcs]; simp⟩)
  have y0 := Boxed.new W 105 (.func (.yield l) #[] #[])
  have B0 := below_one W (.cells #[.func (.yield l) #[] #[]] 105)
  have r0 := (hr.alloc (.cells #[.func (.yield l) #[] #[]] 105)).cell
  have HF := Lib.hid (And.intro hF (And.intro hs (And.intro hr hcs)))
  rw [hN] at r0
  have hN3 : N ≤ 1000 := by omega
  clear hJ hY hp hF hs hr hcs
  go_enter Try.func91, Try.ntmps91
  go_wp2_with (at_make; refine wpList_make_full _ rfl _ _ 50 rfl (W.heap.size + 1) 55 i0 (.agg #[.int .i64 0, .int .i64 0]) 2 Try.underlying50 hi hz0 hz1 _ _ _ _ N rfl rfl rfl rfl ?c1 ?c2 ?c3 ?_)
  case c1 => rw [hz2]; omega
  case c2 => unfold maxLen; omega
  case c3 => simp
  intro w1 hown hgrow
  have BB : Below (W.heap.size + 1) (W.alloc (.cells #[.func (.yield l) #[] #[]] 105)) w1 := (Below.refl _ _).grown hgrow (by simp) (by simp)
  have hs1 : W.heap.size + 1 < w1.heap.size := (hown.lt _ rfl).2
  rcases hown.2 with ⟨hbad, _⟩ | ⟨g, cap', cur, he, _, hg, _, _, hcs, _⟩
  · cases hbad
  obtain ⟨rfl, rfl⟩ : W.heap.size + 1 = g ∧ N = cap' := by
    simp only [Value.slice.injEq, Option.some.injEq, Addr.mk.injEq, and_true] at he
    exact ⟨he.1, he.2.2⟩
  have r1 := (BB.cell (p := ⟨Br, 0, none⟩) (by show Br < W.heap.size + 1; omega)).trans r0
  have BA := BB.alloc (by omega) (.cells #[ppV (W.heap.size + 1) N] 50)
  have p0 := Boxed.new w1 50 (ppV (W.heap.size + 1) N)
  have hg1 : (w1.alloc (.cells #[ppV (W.heap.size + 1) N] 50)).heap[W.heap.size + 1]? = some (.cells cur 55 (0, 0)) := (Below.heap_alloc w1 _ _ hs1).trans hg
  have r2 : (w1.alloc (.cells #[ppV (W.heap.size + 1) N] 50)).cell? ⟨Br, 0, none⟩ = some (.slice (some ⟨R, 0, none⟩) N cap) := (World.cell?_of_block (Below.heap_alloc w1 _ _ (by show Br < w1.heap.size; omega))).trans r1
  have hsrc := pairC_cell ((HF.out.1.below B0).below (w' := w1.alloc (.cells #[ppV (W.heap.size + 1) N] 50)) (by rw [World.size_alloc]; exact BA))
  have HC := Lib.hid (And.intro hg1 (And.intro hsrc (And.intro BA p0)))
  have hlenF : (pairC F).length = N * 2 := by rw [pairC_len, hN]
  have hsz2 : (Try.prog.info? 55).map (·.size) = some 2 := by rw [hi]; simp [hz1]
  have HL := Lib.hid (And.intro hlenF (And.intro hsz2 hcs))
  clear hown hgrow hg hg1 hsrc BA BB r0 r1 p0 hlenF hsz2 hcs he
  go_wp2_with (refine wpList_copy2 (o := ⟨some 11, _, _, _, _, _⟩) rfl (.tmp 9) (.tmp 10) 50 50 rfl 55 Try.underlying50 HL.out.2.1 (W.heap.size + 1) N N ⟨R, 0, none⟩ cap (by rfl) (by rfl) cur 55 HC.out.1 (pairC F) HL.out.1 HL.out.2.2 HC.out.2.1 (pairC_one F) ?_)
  intro w2 hg2 hoth hsz hbel
  have p2 : Boxed w2 w1.heap.size 50 (ppV (W.heap.size + 1) N) := (hoth _ (by omega)).trans HC.out.2.2.2
  have BC := HC.out.2.2.1.trans (hbel (W.heap.size + 1) (Nat.le_refl _))
  have p3 := Boxed.alloc p2 (.cells #[.func (.func 92) #[] #[.pointer (some ⟨Bs, 0, none⟩), .pointer (some ⟨W.heap.size, 0, none⟩), .pointer (some ⟨w1.heap.size, 0, none⟩), .pointer (some ⟨w2.heap.size, 0, none⟩)]] 71)
  have g3 := Boxed.new w2 71 (.func (.func 92) #[] #[.pointer (some ⟨Bs, 0, none⟩), .pointer (some ⟨W.heap.size, 0, none⟩), .pointer (some ⟨w1.heap.size, 0, none⟩), .pointer (some ⟨w2.heap.size, 0, none⟩)])
  have BD := BC.alloc (by omega) (.cells #[.func (.func 92) #[] #[.pointer (some ⟨Bs, 0, none⟩), .pointer (some ⟨W.heap.size, 0, none⟩), .pointer (some ⟨w1.heap.size, 0, none⟩), .pointer (some ⟨w2.heap.size, 0, none⟩)]] 71)
  have BE := B0.trans (BD.mono (by omega))
  have y3 := (BD.block W.heap.size (by omega)).trans y0
  have s3 := (BE.block Bs hbl).trans HF.out.2.1
  have pl3 : PlcAt (w2.alloc (.cells #[.func (.func 92) #[] #[.pointer (some ⟨Bs, 0, none⟩), .pointer (some ⟨W.heap.size, 0, none⟩), .pointer (some ⟨w1.heap.size, 0, none⟩), .pointer (some ⟨w2.heap.size, 0, none⟩)]] 71)) (W.heap.size + 1) F := (Below.heap_alloc w2 _ _ (by omega)).trans hg2
  have call := H.out _ (W.heap.size + 1) w1.heap.size w2.heap.size ⟨⟨hBX, by omega⟩, ⟨by omega, by omega⟩, ⟨by omega, by omega⟩, ⟨by omega, by omega⟩⟩ (by omega) ⟨s3, y3, p3, g3⟩ pl3 BE
  have qc := g3.cell
  rw [hsz] at call qc
  have HK := Lib.hid (show Calls Try.prog 92 #[.int .i64 0, .int .i64 0, .pointer (some ⟨Bs, 0, none⟩), .pointer (some ⟨W.heap.size, 0, none⟩), .pointer (some ⟨w1.heap.size, 0, none⟩), .pointer (some ⟨w1.heap.size + 1, 0, none⟩)] _ _ from call)
  clear call pl3 s3 y3 BE BD g3 p3 p2 BC hg2 hoth hbel H HC HL B0 y0 r2
  go_wp2_with fail
  refine HK.out.mono ?_
  rintro e W' ⟨b, rfl, _, ht, hf⟩
  rw [List.nil_append, ← HF.out.2.2.2] at ht
  have HB := Lib.hid (And.intro ht hf)
  clear ht hf qc HK
  go_wp2
  go_end0
  refine ⟨⟨_, rfl⟩, ?_⟩
  cases b with
  | true => exact .inl (HB.out.1 rfl).2
  | false => exact .inr (HB.out.2 rfl)
end Go.Proofs.Ytnmgoeklcmoalab

namespace Go.Proofs.Ytnmgoeklcmoalab
open Go.RowKit Go.Shelf
attribute [local go_sem] Oper.semAt_some

theorem triedCovers_any (R N cap size : Nat) (w : World) :
    Calls Try.prog 85 #[.slice (some ⟨R, 0, none⟩) N cap, .int .i64 size] w fun e w' => e = .returned (.func (.func 91) #[] #[.pointer (some ⟨w.heap.size, 0, none⟩), .pointer (some ⟨w.heap.size + 1, 0, none⟩)]) ∧
      w' = (w.alloc (.cells #[.slice (some ⟨R, 0, none⟩) N cap] 50)).alloc (.cells #[.int .i64 size] 3) := by
  have hmf : ∀ (fn : Fn) (first cap : Array Value) (w : World), Sem.run Try.prog (Instr.makeFunc fn first cap) w = .ok (.func fn first cap) w := fun _ _ _ _ => rfl
  go_enter Try.func85, Try.ntmps85
  go_wp2
  go_ret
  exact ⟨rfl, rfl⟩

theorem cf_tried1 (args : Array Value) (w : World) : Sem.run Try.prog (callFunc 91 args) w = .ok (.enter 91 args) w := by kernel_rfl

/-! a range over the choices -/
section
variable {Q : Exit → Act → World → Prop} {a : Act} {w : World} {n : Nat}

theorem range_covers {g : Operand} {pt : Tmp} {assign body : Code} {X Br Bs R cap size : Nat} {F : List (Int × Int)} {cs : List (List (Int × Int))}
    (hg : a.eval g = .func (.func 91) #[] #[.pointer (some ⟨Br, 0, none⟩), .pointer (some ⟨Bs, 0, none⟩)])
    (hX : X < w.heap.size) (hBX : Bs ≠ X) (hr : Boxed w Br 50 (.slice (some ⟨R, 0, none⟩) F.length cap)) (hs : Boxed w Bs 3 (.int .i64 size)) (hF : PrRd w (some ⟨R, 0, none⟩) F) (hN2 : F.length ≤ 1000) (hcs : cs = gC F size [] 0)
    (I : List (List (Int × Int)) → World → Prop) (Ix : Code → List (List (Int × Int)) → World → Prop)
    (hI : ∀ p A B, I p A → Below w.heap.size A B → I p B)
    (hIx : ∀ c p A l o o', Ix c p A → w.heap.size ≤ l → A.heap[l]? = some o → o.isCells = false → Ix c p (A.putObj l o'))
    (h0 : I [] w) (A1 : Value → Act)
    (hassign : ∀ l vx W (K : Act → World → Prop), K (A1 vx) W → assign.wpIn (Fence.wide.inRound l) 5 Try.prog (Exit.then K (fun _ _ _ => False)) { tmps := a.tmps.setIfInBounds pt vx, defers := [] } W)
    (hbody : ∀ l pre x P W, (∃ rest, cs = pre ++ x :: rest) → I pre W → PrRd W (some ⟨P, 0, none⟩) x →
      body.wpIn (Fence.wide.inRound l) 5 Try.prog (fun e _ W' => KeepX X (.slice none 0 0) W W' ∧ KeepsFrom w.heap.size W W' ∧ (match e with
        | .normal => I (pre ++ [x]) W'
        | .ret => Ix .ret (pre ++ [x]) W'
        | .exit id => Ix (.exit id) (pre ++ [x]) W'
        | .goto t => Ix (.goto t) (pre ++ [x]) W'
        | .panic _ => False
        | .outgrown => False)) (A1 (.slice (some ⟨P, 0, none⟩) x.length x.length)) W)
    (hdone : ∀ D W, w.heap.size ≤ D → I cs W → W.heap[D]? = some (.deferred (some [])) → Q .normal { a with defers := { target := .collected D, args := #[] } :: a.defers } W)
    (hstop : ∀ D c p W, w.heap.size ≤ D → Ix c p W → W.heap[D]? = some (.deferred (some [])) → c.wpIn Fence.wide n Try.prog Q { a with defers := { target := .collected D, args := #[] } :: a.defers } W) :
    (Code.rangeFunc g #[pt] assign body).wpIn Fence.wide n Try.prog Q a w := by
  refine wpIn_rangeFunc fun fn _ => ?_
  obtain ⟨rcd, hrc⟩ : ∃ rcd : LoopState → Option Code → Loop, rcd = fun st pe => { state := st, pending := pe, fn, tmps := a.tmps, params := #[pt], assign, body, defers := w.heap.size } := ⟨_, rfl⟩
  obtain ⟨W1, hW1⟩ : ∃ W1, (w.alloc (.deferred (some []))).alloc (.loop (rcd .ready none)) = W1 := ⟨_, rfl⟩
  have hsz : W1.heap.size = w.heap.size + 1 + 1 := by rw [← hW1]; simp
  have hL : W1.heap[w.heap.size + 1]? = some (.loop (rcd .ready none)) := by
    have h := World.alloc_heap_new (w.alloc (.deferred (some []))) (.loop (rcd .ready none))
    rw [World.size_alloc, hW1] at h
    exact h
  have hD : W1.heap[w.heap.size]? = some (.deferred (some [])) := by
    rw [← hW1]
    exact (Below.heap_alloc _ _ _ (by simp)).trans (World.alloc_heap_new w _)
  have hB1 : Below w.heap.size w W1 := by rw [← hW1]; exact below_two w _ _
  refine ⟨w.heap.size + 1, [{ target := .collected w.heap.size, args := #[] }], W1, { target := .fn (.func 91) #[.pointer (some ⟨Br, 0, none⟩), .pointer (some ⟨Bs, 0, none⟩)], args := #[.func (.yield (w.heap.size + 1)) #[] #[]] }, W1, 91,
    #[.func (.yield (w.heap.size + 1)) #[] #[], .pointer (some ⟨Br, 0, none⟩), .pointer (some ⟨Bs, 0, none⟩)], W1, ?_, ?_, fun _ _ => trivial, ?_, fun h => Bool.noConfusion h, ?_⟩
  · rw [← hW1, hrc]
    exact run_enterLoop_outer _ _ _ _ _
  · simp only [resolve, hg]
    simp [go_sem]
  · simp [invoke, go_sem]
  refine callsIn_wide.2 ((tried1_any (l := w.heap.size + 1) (X := X) (cs := cs) (R := R) (cap := cap) (size := size) (F := F)
    (J := fun p W => I p W ∧ W.heap[w.heap.size + 1]? = some (.loop (rcd .ready none)) ∧ W.heap[w.heap.size]? = some (.deferred (some [])))
    (Jx := fun p W => ∃ c, Ix c p W ∧ W.heap[w.heap.size + 1]? = some (.loop (rcd .done (some c))) ∧ W.heap[w.heap.size]? = some (.deferred (some [])))
    W1 ?_ ?_ (by omega) hBX ((hB1.block _ hr.lt).trans hr) ((hB1.block _ hs.lt).trans hs) (hF.below hB1) hN2 hcs ⟨hI _ _ _ h0 hB1, hL, hD⟩).mono ?_)
  · rintro p A B ⟨h1, h2, h3⟩ hb
    exact ⟨hI p A B h1 (hb.mono (by omega)), (hb.block _ (by omega)).trans h2, (hb.block _ (by omega)).trans h3⟩
  · rintro pre x P W hw ⟨hi, hl, hd⟩ hP hPW hx m
    have hlt : w.heap.size + 1 < W.heap.size := (Array.getElem?_eq_some_iff.1 hl).1
    have hy := run_yield (P := Try.prog) (args := #[.slice (some ⟨P, 0, none⟩) x.length x.length]) hl (by rw [hrc]; simp)
    have hbeg := run_beginRound (P := Try.prog) hl (by rw [hrc])
    have hl2 : (W.putObj (w.heap.size + 1) (.loop { rcd .ready none with state := .busy })).heap[w.heap.size + 1]? = some (.loop { rcd .ready none with state := .busy }) := World.putObj_heap_same hlt
    have hd2 : (W.putObj (w.heap.size + 1) (.loop { rcd .ready none with state := .busy })).heap[w.heap.size]? = some (.deferred (some [])) := (World.putObj_heap_other (by omega)).trans hd
    have hov2 : PrRd (W.putObj (w.heap.size + 1) (.loop { rcd .ready none with state := .busy })) (some ⟨P, 0, none⟩) x := by
      intro k p hk
      obtain ⟨b, e, hlb, c0, c1⟩ := hx k p hk
      cases e
      have hsame : (W.putObj (w.heap.size + 1) (.loop { rcd .ready none with state := .busy })).heap[P]? = W.heap[P]? := World.putObj_heap_other (by omega)
      exact ⟨P, rfl, by simp; exact hlb, (World.cell?_of_block hsame).trans c0, (World.cell?_of_block hsame).trans c1⟩
    have h5 : RoundIn Fence.wide 5 Try.prog (w.heap.size + 1) (rcd .ready none).fn (((rcd .ready none).params.zip #[.slice (some ⟨P, 0, none⟩) x.length x.length]).foldl (fun tmps (t, a) => tmps.setIfInBounds t a) (rcd .ready none).tmps) (rcd .ready none).assign (rcd .ready none).body W
        fun e W' => ∃ b : Bool, e = .returned (.bool b) ∧ KeepX X (.slice none 0 0) W W' ∧ (b = true → I (pre ++ [x]) W' ∧ W'.heap[w.heap.size + 1]? = some (.loop (rcd .ready none)) ∧ W'.heap[w.heap.size]? = some (.deferred (some []))) ∧
          (b = false → ∃ c, Ix c (pre ++ [x]) W' ∧ W'.heap[w.heap.size + 1]? = some (.loop (rcd .done (some c))) ∧ W'.heap[w.heap.size]? = some (.deferred (some []))) := by
      refine roundIn_of_wpIn trivial ?_
      rw [hrc] at hbeg hl2 hd2 hov2 ⊢
      have hfo : (#[pt].zip #[Value.slice (some ⟨P, 0, none⟩) x.length x.length]).foldl (fun tmps (t, a) => tmps.setIfInBounds t a) a.tmps = a.tmps.setIfInBounds pt (.slice (some ⟨P, 0, none⟩) x.length x.length) := by simp
      dsimp only
      rw [hfo]
      refine hassign _ _ W _ ⟨_, hbeg, wpIn_mono (hbody _ pre x P _ hw (hI _ _ _ hi (below_put _ (by omega))) hov2) ?_⟩
      rintro e a3 W3 ⟨hkx, hkf, hm⟩
      have hl3 := hkf.same _ _ (by omega) hl2 rfl
      have hd3 := hkf.same _ _ (Nat.le_refl _) hd2 rfl
      have hlt3 : w.heap.size + 1 < W3.heap.size := (Array.getElem?_eq_some_iff.1 hl3).1
      have fin : ∀ o, KeepX X (.slice none 0 0) W (W3.putObj (w.heap.size + 1) o) := fun o => ((keepX_put _ hl rfl).trans hkx).trans (keepX_put _ hl3 rfl)
      have dfr : ∀ o, (W3.putObj (w.heap.size + 1) o).heap[w.heap.size]? = some (.deferred (some [])) := fun o => (World.putObj_heap_other (by omega)).trans hd3
      cases e with
      | normal => exact ⟨_, _, run_endRound none hl3, true, rfl, fin _, fun _ => ⟨hI _ _ _ hm (below_put _ (by omega)), World.putObj_heap_same hlt3, dfr _⟩, fun h => Bool.noConfusion h⟩
      | ret => exact ⟨_, _, run_endRound (some .ret) hl3, false, rfl, fin _, fun h => Bool.noConfusion h, fun _ => ⟨.ret, hIx _ _ _ _ _ _ hm (by omega) hl3 rfl, World.putObj_heap_same hlt3, dfr _⟩⟩
      | exit id => exact ⟨_, _, run_endRound (some (.exit id)) hl3, false, rfl, fin _, fun h => Bool.noConfusion h, fun _ => ⟨.exit id, hIx _ _ _ _ _ _ hm (by omega) hl3 rfl, World.putObj_heap_same hlt3, dfr _⟩⟩
      | goto t => exact ⟨_, _, run_endRound (some (.goto t)) hl3, false, rfl, fin _, fun h => Bool.noConfusion h, fun _ => ⟨.goto t, hIx _ _ _ _ _ _ hm (by omega) hl3 rfl, World.putObj_heap_same hlt3, dfr _⟩⟩
      | panic ch => exact hm.elim
      | outgrown => exact hm.elim
    exact ⟨_, _, _, _, hy, h5.1, fun c cs _ => h5.2 c cs (room_wide _)⟩
  · rintro e W2 ⟨⟨v, rfl⟩, (⟨hi, hl, hd⟩ | ⟨p, c, hx, hl, hd⟩)⟩
    · have he := run_endLoop (P := Try.prog) hl (by rw [hrc]; simp)
      refine ⟨none, _, by rw [he, hrc], ?_⟩
      exact hdone w.heap.size _ (Nat.le_refl _) (hI _ _ _ hi (below_put _ (by omega))) ((World.putObj_heap_other (by omega)).trans hd)
    · have he := run_endLoop (P := Try.prog) hl (by rw [hrc]; simp)
      refine ⟨some c, _, by rw [he, hrc], ?_⟩
      exact hstop w.heap.size c p _ (Nat.le_refl _) (hIx _ _ _ _ _ _ hx (by omega) hl rfl) ((World.putObj_heap_other (by omega)).trans hd)
end
end Go.Proofs.Ytnmgoeklcmoalab

namespace Go.Proofs.Ytnmgoeklcmoalab
open Go.RowKit Go.Shelf
attribute [local go_sem] Oper.semAt_some

theorem keepsFrom_below {B : Nat} {W W' : World} (h : Below W.heap.size W W') : KeepsFrom B W W' := ⟨h.size, fun k _ _ hk _ => (h.block k (Array.getElem?_eq_some_iff.1 hk).1).trans hk⟩
theorem gC_mem {F x : List (Int × Int)} {size : Nat} {pre rest : List (List (Int × Int))} (h : gC F size [] 0 = pre ++ x :: rest) : x.length = size ∧ ∀ r, r ∈ x → r ∈ F := by
  have hx : x ∈ gC F size [] 0 := by rw [h]; simp
  obtain ⟨s, hs, hl, hF⟩ := gC_sub _ _ _ _ _ hx
  rw [List.nil_append] at hs
  rw [hs]
  exact ⟨hl, hF⟩
set_option maxRecDepth 100000 in
set_option maxHeartbeats 8000000 in
theorem hasCover_in {xs : List Int} (Rx : Rl xs.length xs) {F : List (Int × Int)} (hF : ∀ r, r ∈ F → isRect xs.length r) (hN2 : F.length ≤ 1000) (R cap size : Nat) (hz : size ≤ 1000) (w : World) (hrd : PrRd w (some ⟨R, 0, none⟩) F) :
    CallsIn Fence.wide 7 Try.prog 72 #[relOf xs, .slice (some ⟨R, 0, none⟩) F.length cap, .int .i64 size] w fun e w' => ∃ b : Bool, e = .returned (.bool b) ∧ (b = true ↔ PC xs.length F size xs) ∧ Below w.heap.size w w' := by
  have hmo : Try.prog.follows .mixedOrders = true := by kernel_rfl
  obtain ⟨N, hN⟩ : ∃ N, F.length = N := ⟨_, rfl⟩
  have x0 := (RelAt.new w xs).alloc (.cells #[.bool false] 4)
  have b0 := Boxed.new (w.alloc (.cells #[.int .i64 xs.length, .int .i64 (rowAt xs 0), .int .i64 (rowAt xs 1), .int .i64 (rowAt xs 2), .int .i64 (rowAt xs 3)] 46)) 4 (.bool false)
  have B0 := below_two w (.cells #[.int .i64 xs.length, .int .i64 (rowAt xs 0), .int .i64 (rowAt xs 1), .int .i64 (rowAt xs 2), .int .i64 (rowAt xs 3)] 46) (.cells #[.bool false] 4)
  rw [World.size_alloc] at b0
  have H := Lib.hid (And.intro Rx (And.intro hF (And.intro hrd (And.intro x0 (And.intro b0 B0)))))
  have h1 := Rx.one
  have h4 := Rx.four
  clear Rx hF hrd
  rw [hN]
  refine callsIn_of_wp_marks Try.func72 rfl trivial ?_ rfl
  simp only [Try.ntmps72, List.size_toArray, List.length_cons, List.length_nil, Nat.reduceAdd, Nat.reduceSub, Array.replicate_succ, Array.replicate_zero, List.push_toArray, List.append_toArray, List.nil_append, List.cons_append]
  gi_wp2_with fail
  refine ⟨trivial, ?_⟩
  refine (callsIn_wide.2 (triedCovers_any R N cap size _)).mono ?_
  rintro e w1 ⟨rfl, rfl⟩
  gi_wp2
  have x2 := (x0.alloc (.cells #[.slice (some ⟨R, 0, none⟩) N cap] 50)).alloc (.cells #[.int .i64 size] 3)
  have c2 := (Boxed.alloc b0 (.cells #[.slice (some ⟨R, 0, none⟩) N cap] 50)).alloc (.cells #[.int .i64 size] 3)
  have r2 := (Boxed.new ((w.alloc (.cells #[.int .i64 xs.length, .int .i64 (rowAt xs 0), .int .i64 (rowAt xs 1), .int .i64 (rowAt xs 2), .int .i64 (rowAt xs 3)] 46)).alloc (.cells #[.bool false] 4)) 50 (.slice (some ⟨R, 0, none⟩) N cap)).alloc (.cells #[.int .i64 size] 3)
  have s2 := Boxed.new (((w.alloc (.cells #[.int .i64 xs.length, .int .i64 (rowAt xs 0), .int .i64 (rowAt xs 1), .int .i64 (rowAt xs 2), .int .i64 (rowAt xs 3)] 46)).alloc (.cells #[.bool false] 4)).alloc (.cells #[.slice (some ⟨R, 0, none⟩) N cap] 50)) 3 (.int .i64 size)
  have B2 := (B0.alloc (by simp; omega) (.cells #[.slice (some ⟨R, 0, none⟩) N cap] 50)).alloc (by simp; omega) (.cells #[.int .i64 size] 3)
  have z2 : ((((w.alloc (.cells #[.int .i64 xs.length, .int .i64 (rowAt xs 0), .int .i64 (rowAt xs 1), .int .i64 (rowAt xs 2), .int .i64 (rowAt xs 3)] 46)).alloc (.cells #[.bool false] 4)).alloc (.cells #[.slice (some ⟨R, 0, none⟩) N cap] 50)).alloc (.cells #[.int .i64 size] 3)).heap.size = w.heap.size + 4 := by simp
  simp only [World.size_alloc] at r2 s2
  obtain ⟨W0, hW0⟩ : ∃ W0, ((((w.alloc (.cells #[.int .i64 xs.length, .int .i64 (rowAt xs 0), .int .i64 (rowAt xs 1), .int .i64 (rowAt xs 2), .int .i64 (rowAt xs 3)] 46)).alloc (.cells #[.bool false] 4)).alloc (.cells #[.slice (some ⟨R, 0, none⟩) N cap] 50)).alloc (.cells #[.int .i64 size] 3)) = W0 := ⟨_, rfl⟩
  rw [hW0] at x2 c2 r2 s2 B2 z2 ⊢
  have f2 := H.out.2.2.1.below B2
  rw [← hN] at r2
  have hX : w.heap.size + 1 < W0.heap.size := by omega
  have hs2 : w.heap.size ≤ W0.heap.size := by omega
  clear hW0 x0 b0 B0
  refine range_covers (X := w.heap.size + 1) (Br := w.heap.size + 1 + 1) (Bs := w.heap.size + 1 + 1 + 1) (R := R) (cap := cap) (size := size) (F := F) (cs := gC F size [] 0) rfl hX (by omega) r2 s2 f2 hN2 rfl
    (fun p W => RelAt W w.heap.size xs ∧ Boxed W (w.heap.size + 1) 4 (.bool false) ∧ (∀ x, x ∈ p → unionL xs.length x ≠ xs) ∧ Below w.heap.size w W)
    (fun c _ W => c = .ret ∧ Boxed W (w.heap.size + 1) 4 (.bool true) ∧ PC xs.length F size xs ∧ Below w.heap.size w W)
    (fun p A B h hb => ⟨h.1.below hb (by omega), (hb.block _ hX).trans h.2.1, h.2.2.1, h.2.2.2.trans (hb.mono hs2)⟩)
    (fun c p A l o o' h hl _ _ => ⟨h.1, (World.putObj_heap_other (by omega)).trans h.2.1, h.2.2.1, h.2.2.2.trans (below_put o' (by omega))⟩)
    ⟨x2, c2, fun x hx => absurd hx (by simp), B2⟩
    (fun vx => { tmps := #[relOf xs, .slice (some ⟨R, 0, none⟩) N cap, .int .i64 size, .pointer (some ⟨w.heap.size, 0, none⟩), undef, undef, .pointer (some ⟨w.heap.size + 1, 0, none⟩), vx, undef, undef, undef, .slice (some ⟨R, 0, none⟩) N cap, .int .i64 size, .func (.func 91) #[] #[.pointer (some ⟨w.heap.size + 1 + 1, 0, none⟩), .pointer (some ⟨w.heap.size + 1 + 1 + 1, 0, none⟩)], vx, undef, undef, undef, undef, undef, undef, undef, undef, undef, undef, undef, undef, undef, undef, undef, undef], defers := [] })
    ?assign ?body ?done ?stop
  case assign =>
    intro l vx W K hK
    gi_wp2
    exact hK
  case body =>
    rintro l pre x P W ⟨rest, hr⟩ ⟨hx, hb, hno, hB⟩ hxr
    obtain ⟨hxz, hm⟩ := gC_mem hr
    have hpc : unionL xs.length x = xs → PC xs.length F size xs := fun e => ⟨x, by rw [hr]; simp, e⟩
    have hlen : x.length ≤ 1000 := by omega
    clear hxz
    have p0 := hx.cell0
    have hxl := hx.lt
    have hbl := hb.lt
    have z1 := zero_new W xs.length
    have HX := Lib.hid (And.intro hx (And.intro hb (And.intro hno (And.intro hB (And.intro hm (And.intro hpc hxr))))))
    have a1 := hx.alloc (.cells #[.int .i64 xs.length, .int .i64 0, .int .i64 0, .int .i64 0, .int .i64 0] 46)
    have B1 := below_one W (.cells #[.int .i64 xs.length, .int .i64 0, .int .i64 0, .int .i64 0, .int .i64 0] 46)
    clear hx hb hno hB hm hpc hxr hr x2 c2 r2 s2 B2 f2
    gi_wp2
    gi_loopw [20, 10] (fun i _ wr => ∃ k : Nat, k ≤ x.length ∧ i = .int .i64 k ∧ RelAt wr W.heap.size (unionL xs.length (x.take k)) ∧ RelAt wr w.heap.size xs ∧ Below W.heap.size W wr)
      (fun i _ _ => x.length - (intOf i).toNat)
    case atStart => exact ⟨0, Nat.zero_le _, rfl, z1, a1, B1⟩
    case round =>
      clear z1 a1 B1 p0
      obtain ⟨k, hk, rfl, hz, hx, hB⟩ := hrel
      have hisr : ∀ r, r ∈ x → isRect xs.length r := fun r hr => H.out.2.1 r (HX.out.2.2.2.2.1 r hr)
      have hZl : (unionL xs.length (x.take k)).length = xs.length := (union_rl h1 h4 fun r hr => hisr r (List.mem_of_mem_take hr)).len
      obtain ⟨Z, hZ⟩ : ∃ Z, unionL xs.length (x.take k) = Z := ⟨_, rfl⟩
      rw [hZ] at hz hZl
      by_cases hlt : k < x.length
      · obtain ⟨p, hp⟩ : ∃ p, x[k]? = some p := ⟨_, List.getElem?_eq_getElem hlt⟩
        obtain ⟨s, t, rfl, _, _⟩ := hisr p (List.mem_of_getElem? hp)
        obtain ⟨P', hPe, _, c0, c1⟩ := (HX.out.2.2.2.2.2.2.below hB) k _ hp
        cases hPe
        have hst : unionL xs.length (x.take (k + 1)) = rectTo Z (s.val : Int) (t.val : Int) xs.length := by
          rw [List.take_add_one, hp]
          show unionL xs.length (x.take k ++ [_]) = _
          rw [union_snoc, hZ]
        have hwp := fun W => withRectangle_any Z (s.val : Int) (t.val : Int) W (by omega)
        have hrl : relOf Z = .agg #[.int .i64 xs.length, .int .i64 (rowAt Z 0), .int .i64 (rowAt Z 1), .int .i64 (rowAt Z 2), .int .i64 (rowAt Z 3)] := by rw [← hZl]
        rw [hrl, hZl] at hwp
        have HST := Lib.hid (And.intro hst hwp)
        have hi1 : (k : Int) < (x.length : Int) := by omega
        have z2 := hz.alloc (.cells #[.int .i64 (s.val : Int), .int .i64 (t.val : Int)] 55)
        have x2 := hx.alloc (.cells #[.int .i64 (s.val : Int), .int .i64 (t.val : Int)] 55)
        have B2 := hB.alloc hB.size (.cells #[.int .i64 (s.val : Int), .int .i64 (t.val : Int)] 55)
        have p0 := z2.cell0
        have p1 := z2.cell1
        have p2 := z2.cell2
        have p3 := z2.cell3
        have p4 := z2.cell4
        rw [hZl] at p0
        have HQ := Lib.hid (And.intro trivial (And.intro hlen (And.intro hN2 (And.intro hX (And.intro hs2 (And.intro h4 (And.intro hxl (And.intro hbl (And.intro hN (And.intro hk (And.intro hlt (And.intro z2.lt h1))))))))))))
        clear hst hwp hisr hZ hp hz hx hB hlen hN2 hX hs2 h4 hxl hbl hN hk hlt h1
        gi_wp2_with fail
        refine ⟨trivial, ?_⟩
        refine (CallsIn.inRound l (callsIn_wide.2 (HST.out.2 _))).mono ?_
        rintro e w3 ⟨rfl, hb⟩
        have z3 := z2.below hb z2.lt
        have x3 := x2.below hb x2.lt
        have B3 := B2.trans (hb.mono B2.size)
        clear z2 x2 B2 hb p0 p1 p2 p3 p4 c0 c1
        obtain ⟨Y, hY⟩ : ∃ Y, rectTo Z (s.val : Int) (t.val : Int) xs.length = Y := ⟨_, rfl⟩
        rw [hY] at HST ⊢
        have q0 := z3.cell0
        have q1 := z3.cell1
        have q2 := z3.cell2
        have q3 := z3.cell3
        have q4 := z3.cell4
        have f0 := z3.free 0
        have f1 := z3.free 1
        have f2 := z3.free 2
        have f3 := z3.free 3
        have f4 := z3.free 4
        have HPT := Lib.hid (z3.put Y)
        have hxne : w.heap.size ≠ W.heap.size := by have := HQ.out.2.2.2.2.2.2.1; omega
        have bb := fun (V : World) (i : Nat) (v : Value) (h : Below W.heap.size W V) => h.setCell (p := ⟨W.heap.size, i, none⟩) (Nat.le_refl _) v
        have rr := fun (V : World) (i : Nat) (v : Value) (h : RelAt V w.heap.size xs) => h.other (p := ⟨W.heap.size, i, none⟩) hxne v
        have HBB := Lib.hid (And.intro bb (And.intro rr (And.intro B3 x3)))
        clear bb rr B3 x3 z3 hY
        have hl1 := HQ.out.2.1
        have hl2 := HQ.out.2.2.2.2.2.2.2.2.2.2.1
        gi_wp2
        go_roundw
        case rel =>
          exact ⟨k + 1, HQ.out.2.2.2.2.2.2.2.2.2.2.1, by go_num, by rw [HST.out.1]; exact HPT.out, HBB.out.2.1 _ _ _ (HBB.out.2.1 _ _ _ (HBB.out.2.1 _ _ _ (HBB.out.2.1 _ _ _ (HBB.out.2.1 _ _ _ HBB.out.2.2.2)))), HBB.out.1 _ _ _ (HBB.out.1 _ _ _ (HBB.out.1 _ _ _ (HBB.out.1 _ _ _ (HBB.out.1 _ _ _ HBB.out.2.2.1))))⟩
        case measure => simp [intOf]; omega
      · obtain rfl : k = x.length := by omega
        rw [List.take_length] at hZ
        have RZ : Rl xs.length Z := hZ ▸ union_rl h1 h4 hisr
        have hE : ∀ s, decide (Z = xs) = s → ∀ w, Sem.run Try.prog (Op.equalIn 9999 44 (.agg #[.int .i64 (rowAt Z 0), .int .i64 (rowAt Z 1), .int .i64 (rowAt Z 2), .int .i64 (rowAt Z 3)]) (.agg #[.int .i64 (rowAt xs 0), .int .i64 (rowAt xs 1), .int .i64 (rowAt xs 2), .int .i64 (rowAt xs 3)])) w = .ok s w :=
          fun s hs w => (eqRowsD 9997 (rowAt Z 0) (rowAt Z 1) (rowAt Z 2) (rowAt Z 3) (rowAt xs 0) (rowAt xs 1) (rowAt xs 2) (rowAt xs 3) w).trans (by rw [rows_eq RZ H.out.1, hs])
        have en : ((xs.length : Int) == (xs.length : Int)) = true := by simp
        have p0 := hz.cell0
        rw [hZl] at p0
        have p1 := hz.cell1
        have p2 := hz.cell2
        have p3 := hz.cell3
        have p4 := hz.cell4
        have q0 := hx.cell0
        have q1 := hx.cell1
        have q2 := hx.cell2
        have q3 := hx.cell3
        have q4 := hx.cell4
        have hi1 : ¬ (x.length : Int) < (x.length : Int) := by omega
        have cX : Boxed wr (w.heap.size + 1) 4 (.bool false) := (hB.block _ hbl).trans HX.out.2.1
        have cX0 := cX.cell
        have fX0 := cX.frozen
        have HZ := Lib.hid (And.intro hZ (And.intro hB (And.intro hx cX)))
        cases hs : decide (Z = xs) with
        | false =>
          have hE2 := hE false hs
          have HN := Lib.hid (of_decide_eq_false hs)
          have HQ := Lib.hid (And.intro trivial (And.intro hlen (And.intro hN2 (And.intro hX (And.intro hs2 (And.intro h4 (And.intro hxl (And.intro hbl (And.intro hN h1)))))))))
          clear hE hs hZ hz hx hB RZ cX hlen hN2 hX hs2 h4 hxl hbl hN h1
          gi_wp2
          refine ⟨KeepX.below HZ.out.2.1, keepsFrom_below HZ.out.2.1, HZ.out.2.2.1, HZ.out.2.2.2, fun y hy => ?_, HX.out.2.2.2.1.trans (HZ.out.2.1.mono (Nat.le_of_lt HQ.out.2.2.2.2.2.2.1))⟩
          rcases hy with hy | rfl
          · exact HX.out.2.2.1 y hy
          · rw [HZ.out.1]
            exact HN.out
        | true =>
          have hE2 := hE true hs
          have HN := Lib.hid (of_decide_eq_true hs)
          have HQ := Lib.hid (And.intro trivial (And.intro hlen (And.intro hN2 (And.intro hX (And.intro hs2 (And.intro h4 (And.intro hxl (And.intro hbl (And.intro hN h1)))))))))
          clear hE hs hZ hz hx hB RZ cX hlen hN2 hX hs2 h4 hxl hbl hN h1
          gi_wp2
          refine ⟨(KeepX.below HZ.out.2.1).trans (keepX_set _ _ _ _), (keepsFrom_below HZ.out.2.1).trans ((KeepsOthers.setCell _ _ _).from _), HZ.out.2.2.2.set _, HX.out.2.2.2.2.2.1 (by rw [HZ.out.1]; exact HN.out), (HX.out.2.2.2.1.trans (HZ.out.2.1.mono (Nat.le_of_lt HQ.out.2.2.2.2.2.2.1))).setCell (p := ⟨w.heap.size + 1, 0, none⟩) (by show w.heap.size ≤ w.heap.size + 1; omega) _⟩
  case done =>
    rintro D W hD ⟨hx, hb, hno, hB⟩ hK
    have cX0 := hb.cell
    have fX0 := hb.frozen
    have HB := Lib.hid (And.intro hno (And.intro hB hb))
    clear hx hb hno hB x2 c2 r2 s2 B2 f2
    gi_wp2
    have hK5 := (KeepsOthers.setCell W ⟨w.heap.size + 1, 0, none⟩ (.bool false)).same D _ hK rfl
    refine ⟨by simp, .inl ⟨_, _, rfl, run_takeDeferred hK5, ?_⟩⟩
    have hb6 : Boxed ((W.setCell ⟨w.heap.size + 1, 0, none⟩ (.bool false)).putObj D (.deferred none)) (w.heap.size + 1) 4 (.bool false) := (World.putObj_heap_other (by omega)).trans (HB.out.2.2.set _)
    have c0 := hb6.cell
    exact ⟨.bool false, by simp [results, Try.results72, go_sem, c0], false, rfl, ⟨fun h => Bool.noConfusion h, fun ⟨x, hx, hu⟩ => absurd hu (HB.out.1 x hx)⟩, (HB.out.2.1.setCell (p := ⟨w.heap.size + 1, 0, none⟩) (by show w.heap.size ≤ w.heap.size + 1; omega) _).trans (below_put _ (by omega))⟩
  case stop =>
    rintro D c p W hD ⟨rfl, hb, hpc, hB⟩ hK
    have HB := Lib.hid (And.intro hpc (And.intro hB hb))
    clear hb hpc hB x2 c2 r2 s2 B2 f2
    gi_wp2
    refine ⟨by simp, .inl ⟨_, _, rfl, run_takeDeferred hK, ?_⟩⟩
    have hb6 : Boxed (W.putObj D (.deferred none)) (w.heap.size + 1) 4 (.bool true) := (World.putObj_heap_other (by omega)).trans HB.out.2.2
    have c0 := hb6.cell
    exact ⟨.bool true, by simp [results, Try.results72, go_sem, c0], true, rfl, ⟨fun _ => HB.out.1, fun _ => rfl⟩, HB.out.2.1.trans (below_put _ (by omega))⟩
end Go.Proofs.Ytnmgoeklcmoalab

namespace Go.Proofs.Ytnmgoeklcmoalab
open Go.RowKit Go.Shelf
attribute [local go_sem] Oper.semAt_some

theorem full_zero : ∀ n : Fin 5, 1 ≤ n.val → 1 ≤ (fullL (List.replicate n.val 0)).length := by decide +kernel
theorem full_pos {xs : List Int} (R : Rl xs.length xs) : 1 ≤ (fullL xs).length := by
  by_cases h : ∃ i j, i < xs.length ∧ j < xs.length ∧ hB xs i j = true
  · obtain ⟨i, j, hi, hj, e⟩ := h
    obtain ⟨r, hr, _⟩ := full_at R i j hi hj e
    exact List.length_pos_of_mem hr
  · have e : xs = List.replicate xs.length 0 := R.ext (Rl.zeros R.one R.four) fun i j hi hj => by
      rw [hB_zeros xs.length i j (by have := R.four; omega)]
      cases e : hB xs i j with
      | false => rfl
      | true => exact absurd ⟨i, j, hi, hj, e⟩ h
    have h4 := R.four
    have := full_zero ⟨xs.length, by omega⟩ R.one
    dsimp only at this
    rw [← e] at this
    exact this

set_option maxRecDepth 100000 in
set_option maxHeartbeats 4000000 in
theorem rank_any {xs : List Int} (R : Rl xs.length xs) (k : Nat) (hk : LeastC xs.length (fullL xs) xs k) (hk2 : k ≤ 16) (w : World) :
    Calls Try.prog 49 #[relOf xs] w fun e w' => e = .returned (.int .i64 (k : Int)) ∧ Below w.heap.size w w' := by
  obtain ⟨hk1, hkj⟩ := least_pc R hk
  have hpos := full_pos R
  have hle : (fullL xs).length ≤ 1000 := by
    have := full_len xs (2 ^ xs.length)
    have := pow_le16 R.four
    unfold fullL
    omega
  have hC := fun (B cap size : Nat) (hz : size ≤ 1000) (w : World) (hrd : PrRd w (some ⟨B, 0, none⟩) (fullL xs)) => callsIn_wide.1 (hasCover_in (F := fullL xs) R (fun r hr => (full_mem R hr).1) hle B cap size hz w hrd)
  have HF := Lib.hid (And.intro (fun w => fullRectangles_any R w) (And.intro hk1 (And.intro hkj (And.intro hC (And.intro hpos hle)))))
  have x1 := RelAt.new w xs
  have B1 := below_one w (.cells #[.int .i64 xs.length, .int .i64 (rowAt xs 0), .int .i64 (rowAt xs 1), .int .i64 (rowAt xs 2), .int .i64 (rowAt xs 3)] 46)
  clear R hk hk1 hkj hpos hle hC
  have p0 := x1.cell0
  have p1 := x1.cell1
  have p2 := x1.cell2
  have p3 := x1.cell3
  have p4 := x1.cell4
  go_enter Try.func49, Try.ntmps49
  go_wp2_with fail
  refine (HF.out.1 _).mono ?_
  rintro e w2 ⟨v, rfl, ho, hb⟩
  obtain ⟨ao, cap, rfl, hrd⟩ := prRd_of ho
  obtain ⟨p, hp⟩ : ∃ p, (fullL xs)[0]? = some p := ⟨_, List.getElem?_eq_getElem HF.out.2.2.2.2.1⟩
  obtain ⟨b, rfl, _⟩ := hrd 0 p hp
  have x2 := x1.below hb x1.lt
  have B2 := B1.trans (hb.mono B1.size)
  have HR := Lib.hid hrd
  clear hp ho hrd hb x1 B1 p0 p1 p2 p3 p4
  obtain ⟨M, hM⟩ : ∃ M, (fullL xs).length = M := ⟨_, rfl⟩
  have HM := Lib.hid hM
  rw [hM]
  clear hM
  go_wp2
  go_loopw [4] (fun n wr => ∃ j : Nat, j ≤ k ∧ n = .int .i64 j ∧ RelAt wr w.heap.size xs ∧ Below w2.heap.size w2 wr)
    (fun n _ => k - (intOf n).toNat)
  case atStart => exact ⟨0, Nat.zero_le _, rfl, x2, Below.refl _ _⟩
  case round =>
    clear x2
    obtain ⟨j, hj, rfl, hx, hB⟩ := hrel
    have hcov := HF.out.2.2.2.1 b cap j (by omega) wr (HR.out.below hB)
    rw [HM.out] at hcov
    have HC := Lib.hid hcov
    have p0 := hx.cell0
    have p1 := hx.cell1
    have p2 := hx.cell2
    have p3 := hx.cell3
    have p4 := hx.cell4
    clear hcov
    go_wp2_with fail
    refine HC.out.mono ?_
    rintro e w3 ⟨c, rfl, hiff, hb⟩
    have hx3 := hx.below hb hx.lt
    have hB3 := hB.trans (hb.mono hB.size)
    clear hb hB HC hx p0 p1 p2 p3 p4
    cases c with
    | true =>
      have hjk : j = k := by
        by_cases e : j < k
        · exact absurd (hiff.1 rfl) (HF.out.2.2.1 j e)
        · omega
      have HJ := Lib.hid hjk
      clear hiff hjk
      go_wp2
      go_ret
      exact ⟨by rw [HJ.out]; rfl, B2.trans (hB3.mono B2.size)⟩
    | false =>
      have hjk : j < k := by
        by_cases e : j = k
        · subst e
          exact Bool.noConfusion (hiff.2 HF.out.2.1)
        · omega
      clear hiff
      go_wp2
      go_roundw
      case rel => exact ⟨j + 1, by omega, by go_num, hx3, hB3⟩
      case measure => simp [intOf]; omega

set_option maxHeartbeats 4000000 in
theorem implRectRank_any (ao : Option Addr) (ca : Nat) (xs : List Int) (k : Nat) (w : World) (hk : relIn xs = true → k ≤ (fullL xs).length ∧ LeastC xs.length (fullL xs) xs k) (hl : xs.length ≤ 1048576) (hx : Rd w ao xs) :
    Calls Try.prog 19 #[.slice ao xs.length ca] w fun e w' => e = .returned (.tuple #[.int .i64 (rkI (relIn xs) k), .bool (relIn xs)]) ∧ Below w.heap.size w w' := by
  cases hp : relIn xs with
  | false =>
    have HP := Lib.hid hp
    clear hp
    go_enter Try.func19, Try.ntmps19
    go_wp2_with (go_at_call 32; refine (relationFrom_no _ _ _ _ hl HP.out hx).mono ?_; rintro e w1 ⟨rfl, hb⟩)
    go_ret2
    exact ⟨rfl, hb.alloc hb.size _⟩
  | true =>
    obtain ⟨hk1, hk2⟩ := hk hp
    have R := Rl.of hp
    have h16 : (fullL xs).length ≤ 16 := Nat.le_trans (full_len xs _) (pow_le16 R.four)
    have HA := Lib.hid (fun w => rank_any R k hk2 (by omega) w)
    have HP := Lib.hid hp
    clear hp R hk hk1 hk2 h16
    go_enter Try.func19, Try.ntmps19
    go_wp2_with fail
    refine (relationFrom_yes _ _ _ _ HP.out hx).mono ?_
    rintro e w1 ⟨rfl, hb⟩
    have x1 := RelAt.new w1 xs
    have B1 := hb.alloc hb.size (.cells #[.int .i64 xs.length, .int .i64 (rowAt xs 0), .int .i64 (rowAt xs 1), .int .i64 (rowAt xs 2), .int .i64 (rowAt xs 3)] 46)
    have p0 := x1.cell0
    have p1 := x1.cell1
    have p2 := x1.cell2
    have p3 := x1.cell3
    have p4 := x1.cell4
    clear x1 hb
    go_wp2_with fail
    refine (HA.out _).mono ?_
    rintro e w2 ⟨rfl, hb⟩
    have B2 := B1.trans (hb.mono B1.size)
    clear hb p0 p1 p2 p3 p4
    go_wp2
    go_ret2
    exact ⟨rfl, B2⟩
end Go.Proofs.Ytnmgoeklcmoalab
