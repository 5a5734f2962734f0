/-
  The program's closure that goes through choices: one call of it, whatever is chosen already.
-/
import Derived.Test.YthdnpcpimggjnaaGreatDoorRC
import Derived.Test.YthdnpcpimggjnaaGreatDoorKX
import Derived.Deep.RegionHeldLaw
namespace Go.Proofs.YthdnpcpimggjnaaGreatDoor
open Go.RowKit Go.Shelf
attribute [local go_sem] Oper.semAt_some

/-- block P holds these pairs, one behind the other -/
def PlcAt (W : World) (P : Nat) (L : List (Int × Int)) : Prop := W.heap[P]? = some (.cells (pairC L).toArray 137 (0, 0))
theorem PlcAt.lt {W : World} {P : Nat} {L : List (Int × Int)} (h : PlcAt W P L) : P < W.heap.size := (Array.getElem?_eq_some_iff.1 h).1
theorem PlcAt.cell {W : World} {P : Nat} {L : List (Int × Int)} (h : PlcAt W P L) {k : Nat} {p : Int × Int} (hk : L[k]? = some p) : W.cell? ⟨P, k * 2, none⟩ = some (.int .i64 p.1) ∧ W.cell? ⟨P, k * 2 + 1, none⟩ = some (.int .i64 p.2) := by
  obtain ⟨h1, h2⟩ := pairC_at L k p hk
  unfold PlcAt at h
  constructor
  · simp [World.cell?, h, h1]
  · simp [World.cell?, h, h2]
theorem PlcAt.free {W : World} {P : Nat} {L : List (Int × Int)} (h : PlcAt W P L) (j : Nat) : W.frozen? ⟨P, j, none⟩ = false := by
  unfold PlcAt at h
  simp [World.frozen?, h]
theorem PlcAt.drew {W : World} {P : Nat} {L : List (Int × Int)} (h : PlcAt W P L) : PlcAt W.drew P L := h
theorem PlcAt.below {W W' : World} {B P : Nat} {L : List (Int × Int)} (h : PlcAt W P L) (hb : Below B W W') (hlt : P < B) : PlcAt W' P L := (hb.block P hlt).trans h
theorem pairC_set : ∀ (L : List (Int × Int)) (k : Nat) (a b : Int), ((pairC L).set (k * 2) (.int .i64 a)).set (k * 2 + 1) (.int .i64 b) = if k < L.length then pairC (L.set k (a, b)) else pairC L
  | [], k, a, b => by simp [pairC]
  | p :: L, 0, a, b => by simp [pairC]
  | p :: L, k + 1, a, b => by
    have ih := pairC_set L k a b
    rw [show (k + 1) * 2 = k * 2 + 1 + 1 by omega]
    show Value.int .i64 p.1 :: Value.int .i64 p.2 :: (((pairC L).set (k * 2) (.int .i64 a)).set (k * 2 + 1) (.int .i64 b)) = _
    rw [ih]
    by_cases h : k < L.length
    · rw [if_pos h, if_pos (by simp; omega)]
      rfl
    · rw [if_neg h, if_neg (by simp; omega)]
      rfl
theorem PlcAt.set {W : World} {P : Nat} {L : List (Int × Int)} (h : PlcAt W P L) {k : Nat} (hk : k < L.length) (a b : Int) :
    PlcAt ((W.setCell ⟨P, k * 2, none⟩ (.int .i64 a)).setCell ⟨P, k * 2 + 1, none⟩ (.int .i64 b)) P (L.set k (a, b)) := by
  unfold PlcAt at h ⊢
  rw [Go.heap_setCell_same _ P (k * 2 + 1) _ _ _ (Go.heap_setCell_same W P (k * 2) _ _ _ h)]
  congr 2
  have := pairC_set L k a b
  rw [if_pos hk] at this
  rw [← this]
  simp

/-! two places exchanged -/
def swp (L : List (Int × Int)) (c i : Nat) : List (Int × Int) := (L.set c (L.getD i (0, 0))).set i (L.getD c (0, 0))
theorem swp_len (L : List (Int × Int)) (c i : Nat) : (swp L c i).length = L.length := by unfold swp; rw [List.length_set, List.length_set]
theorem swp_at (L : List (Int × Int)) (c i k : Nat) (hc : c < L.length) (hi : i < L.length) : (swp L c i)[k]? = if k = i then some (L.getD c (0, 0)) else if k = c then some (L.getD i (0, 0)) else L[k]? := by
  unfold swp
  rw [List.getElem?_set, List.getElem?_set]
  by_cases e : k = i
  · subst e
    rw [if_pos rfl, if_pos rfl, if_pos (by rw [List.length_set]; exact hi)]
  · rw [if_neg (fun h => e h.symm), if_neg e]
    by_cases e2 : k = c
    · subst e2
      rw [if_pos rfl, if_pos rfl, if_pos hc]
    · rw [if_neg (fun h => e2 h.symm), if_neg e2]
theorem getD_of {L : List (Int × Int)} {k : Nat} {p : Int × Int} (h : L[k]? = some p) : L.getD k (0, 0) = p := by rw [List.getD_eq_getElem?_getD, h]; rfl
theorem get_getD {L : List (Int × Int)} {k : Nat} (h : k < L.length) : L[k]? = some (L.getD k (0, 0)) := by rw [List.getD_eq_getElem?_getD, List.getElem?_eq_getElem h]; rfl
theorem swp_swp (L : List (Int × Int)) (c i : Nat) (hc : c < L.length) (hi : i < L.length) : swp (swp L c i) c i = L := by
  apply List.ext_getElem?
  intro k
  have hl := swp_len L c i
  rw [swp_at _ c i k (by rw [hl]; exact hc) (by rw [hl]; exact hi)]
  have hci : (swp L c i).getD c (0, 0) = L.getD i (0, 0) := getD_of (by
    rw [swp_at L c i c hc hi]
    by_cases e : c = i
    · subst e
      rw [if_pos rfl]
    · rw [if_neg e, if_pos rfl])
  have hii : (swp L c i).getD i (0, 0) = L.getD c (0, 0) := getD_of (by rw [swp_at L c i i hc hi, if_pos rfl])
  rw [hci, hii]
  by_cases e : k = i
  · subst e
    rw [if_pos rfl, get_getD hi]
  · rw [if_neg e]
    by_cases e2 : k = c
    · subst e2
      rw [if_pos rfl, get_getD hc]
    · rw [if_neg e2, swp_at L c i k hc hi, if_neg e, if_neg e2]

/-- what lies in the places, some having been chosen: those behind the place nx lie as they lay -/
structure Lie (F L : List (Int × Int)) (px : List (Int × Int)) (nx : Nat) : Prop where
  len : L.length = F.length
  pre : L.take px.length = px
  rest : ∀ j, nx ≤ j → L[j]? = F[j]?
  le : px.length ≤ nx
  top : px.length ≤ F.length
theorem Lie.next {F L px : List (Int × Int)} {nx i : Nat} (h : Lie F L px nx) (hi : nx ≤ i) (hF : i < F.length) : Lie F (swp L px.length i) (px ++ [F.getD i (0, 0)]) (i + 1) := by
  have hle := h.le
  have hl := h.len
  have hc : px.length < L.length := by omega
  have hi2 : i < L.length := by omega
  have hF2 : L.getD i (0, 0) = F.getD i (0, 0) := by rw [List.getD_eq_getElem?_getD, List.getD_eq_getElem?_getD, h.rest i hi]
  refine ⟨by rw [swp_len, hl], ?_, fun j hj => ?_, by rw [List.length_append]; simp; omega, by rw [List.length_append]; simp; omega⟩
  · apply List.ext_getElem?
    intro k
    rw [List.getElem?_take, List.length_append, List.length_singleton]
    by_cases hk : k < px.length + 1
    · rw [if_pos hk, swp_at L _ i k hc hi2]
      by_cases e : k = i
      · subst e
        have hkp : k = px.length := by omega
        rw [if_pos rfl, ← hkp, hF2, hkp, List.getElem?_append_right (Nat.le_refl _), Nat.sub_self]
        rfl
      · rw [if_neg e]
        by_cases e2 : k = px.length
        · rw [if_pos e2, hF2, e2, List.getElem?_append_right (Nat.le_refl _), Nat.sub_self]
          rfl
        · rw [if_neg e2, List.getElem?_append_left (by omega)]
          have := congrArg (fun l => l[k]?) h.pre
          rw [List.getElem?_take, if_pos (by omega)] at this
          exact this
    · rw [if_neg hk, List.getElem?_eq_none (by simp; omega)]
  · rw [swp_at L _ i j hc hi2, if_neg (by omega), if_neg (by omega)]
    exact h.rest j (by omega)
theorem Lie.leaf {F L px : List (Int × Int)} {nx : Nat} (h : Lie F L px nx) {k : Nat} {p : Int × Int} (hk : px[k]? = some p) : L[k]? = some p := by
  have hlt := (List.getElem?_eq_some_iff.1 hk).1
  have := congrArg (fun l => l[k]?) h.pre
  rw [List.getElem?_take, if_pos hlt] at this
  rw [this, hk]

/-! the closure's memory -/
abbrev ppV (P N : Nat) : Value := .slice (some ⟨P, 0, none⟩) N N
structure CtxC (W : World) (Bs By Bp Bg l P size N : Nat) : Prop where
  s : Boxed W Bs 3 (.int .i64 size)
  y : Boxed W By 196 (.func (.yield l) #[] #[])
  p : Boxed W Bp 93 (ppV P N)
  g : Boxed W Bg 71 (.func (.func 238) #[] #[.pointer (some ⟨Bs, 0, none⟩), .pointer (some ⟨By, 0, none⟩), .pointer (some ⟨Bp, 0, none⟩), .pointer (some ⟨Bg, 0, none⟩)])
/-- none of the closure's own blocks is X or P -/
structure Off (Bs By Bp Bg P X : Nat) : Prop where
  s : Bs ≠ X ∧ Bs ≠ P
  y : By ≠ X ∧ By ≠ P
  p : Bp ≠ X ∧ Bp ≠ P
  g : Bg ≠ X ∧ Bg ≠ P
theorem CtxC.keep {W W' : World} {Bs By Bp Bg l P size N X : Nat} (h : CtxC W Bs By Bp Bg l P size N) (k : KeepX X (ppV P N) W W') (ho : Off Bs By Bp Bg P X) : CtxC W' Bs By Bp Bg l P size N := by
  have hne : ∀ b, b ≠ P → some b ≠ (ppV P N).ownBlock := fun b hb e => hb (Option.some.inj e)
  exact ⟨k.2 _ _ ho.s.1 (hne _ ho.s.2) h.s rfl, k.2 _ _ ho.y.1 (hne _ ho.y.2) h.y rfl, k.2 _ _ ho.p.1 (hne _ ho.p.2) h.p rfl, k.2 _ _ ho.g.1 (hne _ ho.g.2) h.g rfl⟩
theorem keepX_cell {X P N : Nat} {W : World} (j : Nat) (v : Value) : KeepX X (ppV P N) W (W.setCell ⟨P, j, none⟩ v) :=
  ⟨(KeepsOthers.setCell W ⟨P, j, none⟩ v).size, fun b _ _ hv hb _ => (Below.heap_setCell W ⟨P, j, none⟩ v b (fun e => hv (by rw [e]; rfl))).trans hb⟩

/-- what the range's body does with a choice -/
def YieldsC (l X B0 : Nat) (cs : List (List (Int × Int))) (J Jx : List (List (Int × Int)) → World → Prop) : Prop :=
  ∀ pre x P W, (∃ rest, cs = pre ++ x :: rest) → J pre W → B0 ≤ P → P < W.heap.size → PrRd W (some ⟨P, 0, none⟩) x →
    ∀ m, YieldAt Fence.wide m Tryz.prog l #[.slice (some ⟨P, 0, none⟩) x.length x.length] W fun e W' => ∃ b : Bool, e = .returned (.bool b) ∧ KeepX X (.slice none 0 0) W W' ∧ (b = true → J (pre ++ [x]) W') ∧ (b = false → Jx (pre ++ [x]) W')

def GoPostC (X P N : Nat) (J Jx : List (List (Int × Int)) → World → Prop) (done : List (List (Int × Int))) (L : List (Int × Int)) (W : World) (e : Ending) (W' : World) : Prop :=
  ∃ b : Bool, e = .returned (.bool b) ∧ KeepX X (ppV P N) W W' ∧ (b = true → PlcAt W' P L ∧ J done W') ∧ (b = false → ∃ p, Jx p W')

theorem plc_prRd {F L px : List (Int × Int)} {nx P : Nat} {W : World} (h : PlcAt W P L) (hl : Lie F L px nx) : PrRd W (some ⟨P, 0, none⟩) px :=
  fun _ _ hk => ⟨P, rfl, h.lt, (h.cell (hl.leaf hk)).1, (h.cell (hl.leaf hk)).2⟩

set_option maxRecDepth 100000 in
set_option maxHeartbeats 8000000 in
theorem choose_leaf {l X B0 Bs By Bp Bg P N size : Nat} {cs : List (List (Int × Int))} {J Jx : List (List (Int × Int)) → World → Prop} {F L px : List (Int × Int)} {nx : Nat}
    (hJ : ∀ p A B, J p A → Below B0 A B → J p B) (hY : YieldsC l X B0 cs J Jx) (hX : X < B0) (hP : B0 ≤ P) (hN : F.length = N)
    (hl : Lie F L px nx) (hs : px.length = size) (W : World) (pre : List (List (Int × Int))) (hc : CtxC W Bs By Bp Bg l P size N) (hp : PlcAt W P L) (hj : J pre W) (hw : ∃ rest, cs = pre ++ px :: rest) :
    Calls Tryz.prog 238 #[.int .i64 size, .int .i64 nx, .pointer (some ⟨Bs, 0, none⟩), .pointer (some ⟨By, 0, none⟩), .pointer (some ⟨Bp, 0, none⟩), .pointer (some ⟨Bg, 0, none⟩)] W (GoPostC X P N J Jx (pre ++ [px]) L W) := by
  refine (callsIn_wide (n := 6)).1 ?_
  have hmo : Tryz.prog.follows .mixedOrders = true := by kernel_rfl
  have cz := hc.s.cell
  have cy := hc.y.cell
  have cp := hc.p.cell
  have htop := hl.top
  have hs2 : (size : Int) ≤ (N : Int) := by omega
  have hs0 : (0 : Int) ≤ (size : Int) := by omega
  obtain ⟨fn, tmps, assign, body, hy, hR⟩ := hY pre px P W.drew hw (hJ pre W W.drew hj ((Below.refl _ W).drew)) hP hp.lt (plc_prRd hp.drew hl) 5
  rw [hs] at hy
  have H := Lib.hid (And.intro hp (And.intro hX hP))
  clear hJ hY hw hj hX hP hc hl hs htop hp
  refine callsIn_of_wp Tryz.func238 rfl trivial ?_ rfl
  simp only [Tryz.ntmps238, List.size_toArray, List.length_cons, List.length_nil, Nat.reduceAdd, Nat.reduceSub, Array.replicate_succ, Array.replicate_zero, List.push_toArray, List.append_toArray, List.nil_append, List.cons_append]
  gi_wp2
  gi_region_with_o (refine hR.mono ?_; rintro e w3 ⟨b, rfl, hb⟩)
  all_goals
    gi_wp2
    go_ret
    have hpl : PlcAt w3 P L := hb.1.2 P _ (by have := H.out.2.1; have := H.out.2.2; omega) (by simp [Value.ownBlock]) H.out.1 rfl
    exact ⟨b, rfl, keepX_nil hb.1, fun h => ⟨hpl, hb.2.1 h⟩, fun h => ⟨_, hb.2.2 h⟩⟩
end Go.Proofs.YthdnpcpimggjnaaGreatDoor
