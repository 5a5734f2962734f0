/-
  A range over the choices: the program's triedCovers, and the range's law for it.
-/
import Derived.Test.YthdnpcpimggjnaaGreatDoorQM
import Derived.StillTailTactics
import Derived.Laws.CopyRow
import Derived.Laws.EntriesVeiled
namespace Go.Proofs.YthdnpcpimggjnaaGreatDoor
open Go.RowKit Go.Shelf
attribute [local go_sem] Oper.semAt_some

theorem cf_choose (args : Array Value) (w : World) : Sem.run Tryz.prog (callFunc 238 args) w = .ok (.enter 238 args) w := by kernel_rfl
/-- a region, and what follows it, apart: a proof of what follows that stands within the region's is copied for each order -/
theorem wp_via {P : Program} {c : Code} {Q : Exit → Act → World → Prop} {a : Act} {w : World} {F : Act} {W : World} (h : c.wp P (Exit.then (fun a' w' => a' = F ∧ w' = W) fun _ _ _ => False) a w) (k : Q .normal F W) : c.wp P Q a w :=
  wp_mono h fun e a' w' hq => by
    cases e with
    | normal =>
      obtain ⟨rfl, rfl⟩ := hq
      exact k
    | _ => exact False.elim hq
/-- two places exchanged, in the world -/
def swW (W : World) (P c i : Nat) (x y : Int × Int) : World :=
  (((W.setCell ⟨P, c * 2, none⟩ (.int .i64 y.1)).setCell ⟨P, c * 2 + 1, none⟩ (.int .i64 y.2)).setCell ⟨P, i * 2, none⟩ (.int .i64 x.1)).setCell ⟨P, i * 2 + 1, none⟩ (.int .i64 x.2)
theorem swW_plc {W : World} {P c i : Nat} {L : List (Int × Int)} {x y : Int × Int} (h : PlcAt W P L) (hc : L[c]? = some x) (hi : L[i]? = some y) : PlcAt (swW W P c i x y) P (swp L c i) := by
  have h1 := h.set (k := c) (List.getElem?_eq_some_iff.1 hc).1 y.1 y.2
  have h2 := h1.set (k := i) (by rw [List.length_set]; exact (List.getElem?_eq_some_iff.1 hi).1) x.1 x.2
  unfold swp
  rw [getD_of hc, getD_of hi]
  exact h2
theorem swW_keep {W : World} {X P N c i : Nat} (x y : Int × Int) : KeepX X (ppV P N) W (swW W P c i x y) :=
  (((keepX_cell _ _).trans (keepX_cell _ _)).trans (keepX_cell _ _)).trans (keepX_cell _ _)
theorem swW_below {W : World} {B P c i : Nat} (x y : Int × Int) (h : B ≤ P) : Below B W (swW W P c i x y) :=
  ((((Below.refl B W).setCell (p := ⟨P, c * 2, none⟩) h _).setCell (p := ⟨P, c * 2 + 1, none⟩) h _).setCell (p := ⟨P, i * 2, none⟩) h _).setCell (p := ⟨P, i * 2 + 1, none⟩) h _
theorem swW_size (W : World) (P c i : Nat) (x y : Int × Int) : (swW W P c i x y).heap.size = W.heap.size := by unfold swW; simp

theorem set_some {W : World} {P j k : Nat} {cs : Array Value} {t : TypeId} (h : W.heap[P]? = some (.cells cs t (0, 0))) (hk : k < cs.size) (v : Value) : ∃ u, (W.setCell ⟨P, j, none⟩ v).cell? ⟨P, k, none⟩ = some u := by
  have := Go.heap_setCell_same W P j cs t v h
  exact ⟨(cs.setIfInBounds j v)[k]'(by simp; exact hk), by simp [World.cell?, this, hk]⟩
/-- one call of the closure, m being left -/
def ChoosesP (l X _B0 Bs By Bp Bg P N size : Nat) (F : List (Int × Int)) (cs : List (List (Int × Int))) (J Jx : List (List (Int × Int)) → World → Prop) (m : Nat) : Prop :=
  ∀ (L px : List (Int × Int)) (nx : Nat) (W : World) (pre : List (List (Int × Int))), Lie F L px nx → px.length + m = size → nx ≤ N → CtxC W Bs By Bp Bg l P size N → PlcAt W P L → J pre W → (∃ rest, cs = pre ++ gC F m px nx ++ rest) →
    Calls Tryz.prog 238 #[.int .i64 px.length, .int .i64 nx, .pointer (some ⟨Bs, 0, none⟩), .pointer (some ⟨By, 0, none⟩), .pointer (some ⟨Bp, 0, none⟩), .pointer (some ⟨Bg, 0, none⟩)] W (GoPostC X P N J Jx (pre ++ gC F m px nx) L W)

set_option maxRecDepth 100000 in
set_option maxHeartbeats 8000000 in
theorem choose_step {l X B0 Bs By Bp Bg P N size m : Nat} {cs : List (List (Int × Int))} {J Jx : List (List (Int × Int)) → World → Prop} {F : List (Int × Int)}
    (hJ : ∀ p A B, J p A → Below B0 A B → J p B) (hX : X < B0) (hP : B0 ≤ P) (hN : F.length = N) (hN2 : N ≤ 1000) (hO : Off Bs By Bp Bg P X)
    (ih : ChoosesP l X B0 Bs By Bp Bg P N size F cs J Jx m) : ChoosesP l X B0 Bs By Bp Bg P N size F cs J Jx (m + 1) := by
  intro L px nx W pre hl hs hnx hc hp hj hw
  have hmo : Tryz.prog.follows .mixedOrders = true := by kernel_rfl
  have hcf := cf_choose
  have cz := hc.s.cell
  have hle := hl.le
  have hne : ((px.length : Int) == (size : Int)) = false := beq_eq_false_iff_ne.2 (by omega)
  have H := Lib.hid (And.intro hJ (And.intro hX (And.intro hP (And.intro hN (And.intro hO (And.intro ih (And.intro hl (And.intro hs hw))))))))
  have HS := Lib.hid (And.intro hc (And.intro hp hj))
  obtain ⟨c, hcl⟩ : ∃ c, px.length = c := ⟨_, rfl⟩
  have HCL := Lib.hid hcl
  rw [hcl] at hne hle ⊢
  clear hJ hX hP hN hO ih hl hs hw hc hp hj hcl
  go_enter Tryz.func238, Tryz.ntmps238
  go_wp2
  go_loopw [9] (fun i wr => ∃ d : Nat, nx + d ≤ N ∧ i = .int .i64 ((nx + d : Nat) : Int) ∧ CtxC wr Bs By Bp Bg l P size N ∧ PlcAt wr P L ∧ KeepX X (ppV P N) W wr ∧ J (pre ++ gTo F m px nx d) wr)
    (fun i _ => N - (intOf i).toNat)
  case atStart => exact ⟨0, by omega, rfl, HS.out.1, HS.out.2.1, KeepX.refl _ _ _, by rw [show gTo F m px nx 0 = [] from rfl, List.append_nil]; exact HS.out.2.2⟩
  case round =>
    clear HS cz hne
    obtain ⟨d, hd, rfl, hc, hp, hk, hj⟩ := hrel
    have cp := hc.p.cell
    obtain ⟨i, hi⟩ : ∃ i, nx + d = i := ⟨_, rfl⟩
    have HI := Lib.hid hi
    rw [hi] at hd ⊢
    by_cases hlt : i < N
    · have hil : i < L.length := by rw [H.out.2.2.2.2.2.2.1.len, H.out.2.2.2.1]; exact hlt
      have hcl : c < L.length := by omega
      obtain ⟨x, hx⟩ : ∃ x, L[c]? = some x := ⟨_, List.getElem?_eq_getElem hcl⟩
      obtain ⟨y, hy⟩ : ∃ y, L[i]? = some y := ⟨_, List.getElem?_eq_getElem hil⟩
      obtain ⟨cx0, cx1⟩ := hp.cell hx
      obtain ⟨cy0, cy1⟩ := hp.cell hy
      have fx0 := hp.free (c * 2)
      have fx1 := hp.free (c * 2 + 1)
      have fy0 := hp.free (i * 2)
      have fy1 := hp.free (i * 2 + 1)
      have hpl : (pairC L).toArray.size = L.length * 2 := by simp [pairC_len]
      obtain ⟨u0, g0⟩ := set_some (j := c * 2) (k := i * 2) hp (by omega) (.int .i64 y.1)
      obtain ⟨u1, g1⟩ := set_some (j := c * 2 + 1) (k := i * 2 + 1) (Go.heap_setCell_same wr P (c * 2) _ _ (.int .i64 y.1) hp) (by rw [Array.size_setIfInBounds]; omega) (.int .i64 y.2)
      clear hpl
      have hi1 : (i : Int) < (N : Int) := by omega
      have hc1 : (c : Int) < (N : Int) := by omega
      have HQ := Lib.hid (And.intro hc (And.intro hp (And.intro hk (And.intro hj (And.intro hx hy)))))
      clear hc hp hk hj hx hy
      obtain ⟨W2, hW2⟩ : ∃ W2, ((((wr.setCell ⟨P, c * 2, none⟩ (.int .i64 y.1)).setCell ⟨P, c * 2 + 1, none⟩ (.int .i64 y.2)).setCell ⟨P, i * 2, none⟩ (.int .i64 x.1)).setCell ⟨P, i * 2 + 1, none⟩ (.int .i64 x.2)).drew = W2 := ⟨_, rfl⟩
      have HW2 := Lib.hid hW2
      have e2 : (swW wr P c i x y).drew = W2 := hW2
      have k2 : KeepX X (ppV P N) wr W2 := e2 ▸ (swW_keep x y).trans (KeepX.drew _)
      have p2 : PlcAt W2 P (swp L c i) := e2 ▸ (swW_plc HQ.out.2.1 HQ.out.2.2.2.2.1 HQ.out.2.2.2.2.2).drew
      have b2 : Below B0 wr W2 := e2 ▸ (swW_below x y H.out.2.2.1).drew
      have c2 := HQ.out.1.keep k2 H.out.2.2.2.2.1
      have j2 := H.out.1 _ _ _ HQ.out.2.2.2.1 b2
      have hle2 : px.length ≤ nx := H.out.2.2.2.2.2.2.1.le
      have l2 := H.out.2.2.2.2.2.2.1.next (i := i) (by have := HI.out; omega) (by rw [H.out.2.2.2.1]; exact hlt)
      have cg := HQ.out.1.g.cell
      have nG : ¬ Bg = P := H.out.2.2.2.2.1.g.2
      have nB : ¬ Bp = P := H.out.2.2.2.2.1.p.2
      obtain ⟨rest, hr⟩ := H.out.2.2.2.2.2.2.2.2
      obtain ⟨r2, hr2⟩ := gTo_split F m px nx d (by rw [H.out.2.2.2.1]; have := HI.out; omega)
      have hgs := gTo_succ F m px nx d
      rw [HI.out] at hgs
      rw [hgs] at hr2
      have call := H.out.2.2.2.2.2.1 (swp L px.length i) (px ++ [F.getD i (0, 0)]) (i + 1) W2 (pre ++ gTo F m px nx d) l2 (by rw [List.length_append, List.length_singleton]; have := H.out.2.2.2.2.2.2.2.1; omega) (by omega) c2 (by rw [HCL.out]; exact p2) j2 ⟨r2 ++ rest, by rw [hr, hr2]; simp only [List.append_assoc]⟩
      rw [List.append_assoc, ← hgs, List.length_append, List.length_singleton, HCL.out] at call
      have HC := Lib.hid (And.intro call (And.intro k2 c2))
      clear call k2 p2 b2 j2 l2 hr hr2 hgs hW2 e2 hle2 c2
      go_wp2
      apply wp_via
      case h =>
        go_region
        all_goals exact ⟨rfl, rfl⟩
      case k =>
        go_wp2_with fail
        rw [HW2.out]
        refine HC.out.1.mono ?_
        rintro e w5 ⟨b, rfl, hk5, ht, hf⟩
        have k5 := HC.out.2.1.trans hk5
        have c5 := HC.out.2.2.keep hk5 H.out.2.2.2.2.1
        clear hk5
        cases b with
        | false =>
          have HB := Lib.hid (And.intro ((HQ.out.2.2.1).trans k5) (hf rfl))
          clear ht hf k5 c5 HW2 HC g0 g1 cx0 cx1 cy0 cy1 fx0 fx1 fy0 fy1 cp cg nG nB
          go_wp2
          go_ret
          exact ⟨false, rfl, HB.out.1, fun h => Bool.noConfusion h, fun _ => HB.out.2⟩
        | true =>
          obtain ⟨p5, j5⟩ := ht rfl
          clear ht hf HW2 HC g0 g1 cx0 cx1 cy0 cy1 fx0 fx1 fy0 fy1 cp cg nG
          have hsl := swp_len L c i
          have hsc : (swp L c i)[c]? = some y := by
            rw [swp_at L c i c hcl hil]
            by_cases e : c = i
            · subst e
              rw [if_pos rfl, ← HQ.out.2.2.2.2.2, get_getD hcl]
            · rw [if_neg e, if_pos rfl, getD_of HQ.out.2.2.2.2.2]
          have hsi : (swp L c i)[i]? = some x := by
            rw [swp_at L c i i hcl hil, if_pos rfl, getD_of HQ.out.2.2.2.2.1]
          obtain ⟨cx0, cx1⟩ := p5.cell hsc
          obtain ⟨cy0, cy1⟩ := p5.cell hsi
          have fx0 := p5.free (c * 2)
          have fx1 := p5.free (c * 2 + 1)
          have fy0 := p5.free (i * 2)
          have fy1 := p5.free (i * 2 + 1)
          have cp := c5.p.cell
          have hpl : (pairC (swp L c i)).toArray.size = L.length * 2 := by simp [pairC_len, hsl]
          obtain ⟨u2, g0⟩ := set_some (j := c * 2) (k := i * 2) p5 (by omega) (.int .i64 x.1)
          obtain ⟨u3, g1⟩ := set_some (j := c * 2 + 1) (k := i * 2 + 1) (Go.heap_setCell_same w5 P (c * 2) _ _ (.int .i64 x.1) p5) (by rw [Array.size_setIfInBounds]; omega) (.int .i64 x.2)
          obtain ⟨W6, hW6⟩ : ∃ W6, ((((w5.setCell ⟨P, c * 2, none⟩ (.int .i64 x.1)).setCell ⟨P, c * 2 + 1, none⟩ (.int .i64 x.2)).setCell ⟨P, i * 2, none⟩ (.int .i64 y.1)).setCell ⟨P, i * 2 + 1, none⟩ (.int .i64 y.2)).drew = W6 := ⟨_, rfl⟩
          have HW6 := Lib.hid hW6
          have e6 : (swW w5 P c i y x).drew = W6 := hW6
          have k6 : KeepX X (ppV P N) w5 W6 := e6 ▸ (swW_keep y x).trans (KeepX.drew _)
          have p6 : PlcAt W6 P (swp (swp L c i) c i) := e6 ▸ (swW_plc p5 hsc hsi).drew
          rw [swp_swp L c i hcl hil] at p6
          have b6 : Below B0 w5 W6 := e6 ▸ (swW_below y x H.out.2.2.1).drew
          have HF := Lib.hid (And.intro (c5.keep k6 H.out.2.2.2.2.1) (And.intro p6 (And.intro (HQ.out.2.2.1.trans (k5.trans k6)) (H.out.1 _ _ _ j5 b6))))
          clear hpl hsl hsc hsi p5 j5 k5 c5 hW6 e6 k6 p6 b6
          go_wp2
          apply wp_via
          case h =>
            go_region
            all_goals exact ⟨rfl, rfl⟩
          case k =>
            go_wp2
            rw [HW6.out]
            go_roundw
            case rel => exact ⟨d + 1, by have := HI.out; omega, by rw [← Nat.add_assoc, HI.out]; go_num, HF.out⟩
            case measure => simp [intOf]; omega
    · have hiN : i = N := by omega
      have hdd : d = F.length - nx := by rw [H.out.2.2.2.1]; have := HI.out; omega
      have HB := Lib.hid (And.intro hk (And.intro hp (by rw [hdd, gTo_all] at hj; exact hj : J (pre ++ gC F (m + 1) px nx) wr)))
      have hi1 : ¬ (i : Int) < (N : Int) := by omega
      clear hc hk hp hj hdd hiN
      go_wp2
      go_ret
      exact ⟨true, rfl, HB.out.1, fun _ => HB.out.2, fun h => Bool.noConfusion h⟩
end Go.Proofs.YthdnpcpimggjnaaGreatDoor

namespace Go.Proofs.YthdnpcpimggjnaaGreatDoor
open Go.RowKit Go.Shelf
attribute [local go_sem] Oper.semAt_some

/-- the closure, whatever is left -/
theorem choose_any {l X B0 Bs By Bp Bg P N size : Nat} {cs : List (List (Int × Int))} {J Jx : List (List (Int × Int)) → World → Prop} {F : List (Int × Int)}
    (hJ : ∀ p A B, J p A → Below B0 A B → J p B) (hY : YieldsC l X B0 cs J Jx) (hX : X < B0) (hP : B0 ≤ P) (hN : F.length = N) (hN2 : N ≤ 1000) (hO : Off Bs By Bp Bg P X) : ∀ m, ChoosesP l X B0 Bs By Bp Bg P N size F cs J Jx m
  | 0 => by
    intro L px nx W pre hl hs hnx hc hp hj hw
    obtain ⟨rest, hr⟩ := hw
    have hs2 : px.length = size := by omega
    rw [show gC F 0 px nx = [px] from rfl] at hr ⊢
    have := choose_leaf (nx := nx) hJ hY hX hP hN hl hs2 W pre hc hp hj ⟨rest, by rw [hr]; simp⟩
    rw [hs2]
    exact this
  | m + 1 => choose_step hJ hX hP hN hN2 hO (choose_any hJ hY hX hP hN hN2 hO m)

section
variable {P : Program}
/-- copy of all elements of two cells each -/
theorem run_copy2 (w : World) (dT sT ty elem : TypeId) (g n dCap : Nat) (a : Addr) (sCap : Nat) (cur : Array Value) (t : TypeId) (cs : List Value)
    (hu : P.underlying dT = some (.slice elem)) (hs : (P.info? elem).map (·.size) = some 2) (hg : w.heap[g]? = some (.cells cur t (0, 0))) (hn : cs.length = n * 2) (hc : cur.size = n * 2)
    (hsrc : ∀ j v, cs[j]? = some v → w.cell? (a.add j) = some v) (h1 : ∀ v ∈ cs, v.oneCell' = true) :
    (Builtin.copy_ #[dT, sT] ty #[.slice (some ⟨g, 0, none⟩) n dCap, .slice (some a) n sCap]).run P w = .ok (goInt n) (w.setRow g cs.toArray) := by
  have hl := run_loadCells_list (P := P) w a cs hsrc
  have hst := run_storeCells_at P g 0 t cs 0 cur w hg (by omega) h1
  have hd : cur.toList.drop cs.length = [] := List.drop_eq_nil_of_le (by rw [Array.length_toList]; omega)
  simp only [Nat.add_zero, Nat.zero_add, List.take_zero, List.nil_append, hd, List.append_nil] at hst
  cases hq : P.info? elem with
  | none => simp [hq] at hs
  | some i =>
    have hi : i.size = 2 := by simpa [hq] using hs
    simp [Builtin.copy_, run_underlying hu, Builtin.lenOf, Builtin.firstCells, sizeOf, typeInfo, hq, hi, ← hn, hl, hst]
theorem wpList_copy2 {w : World} {ops : Array Oper} {rest : List Oper} {o : Oper} {a : Act} {Q : Exit → Act → World → Prop} (hgd : o.guard = none) (d s : Operand) (dT sT : TypeId)
    (ho : o.op = .call { callee := .builtin .copy, args := #[d, s], argTypes := #[dT, sT] }) (elem : TypeId) (hu : P.underlying dT = some (.slice elem)) (hsz : (P.info? elem).map (·.size) = some 2)
    (g n dCap : Nat) (ad : Addr) (sCap : Nat) (hd : a.eval d = .slice (some ⟨g, 0, none⟩) n dCap) (hs : a.eval s = .slice (some ad) n sCap)
    (cur : Array Value) (t : TypeId) (hg : w.heap[g]? = some (.cells cur t (0, 0))) (cs : List Value) (hn : cs.length = n * 2) (hc : cur.size = n * 2)
    (hsrc : ∀ j v, cs[j]? = some v → w.cell? (ad.add j) = some v) (h1 : ∀ v ∈ cs, v.oneCell' = true)
    (h : ∀ w', w'.heap[g]? = some (.cells cs.toArray t (0, 0)) → (∀ b, b ≠ g → w'.heap[b]? = w.heap[b]?) → w'.heap.size = w.heap.size → (∀ B, B ≤ g → Below B w w') → wpList P ops Q rest (a.put o.dst (goInt n)) w') : wpList P ops Q (o :: rest) a w := by
  refine wpList_plain hgd fun K hK => ?_
  have hrun := run_copy2 (P := P) w dT sT o.type elem g n dCap ad sCap cur t cs hu hsz hg hn hc hsrc h1
  unfold Oper.wp
  simp [execOp, ho, resolve, invoke, builtin, hd, hs, hrun, Result.andThen]
  exact hK _ _ (h _ (setRow_heap w g cur _ t _ hg) (fun b hb => setRow_other w g b _ hb) (by simp [World.setRow]) (fun B hB => ⟨rfl, rfl, rfl, by simp [World.setRow], fun k hk => setRow_other w g k _ (by omega)⟩))
end

theorem pairC_cell {W : World} {R : Nat} {F : List (Int × Int)} (h : PrRd W (some ⟨R, 0, none⟩) F) : ∀ j v, (pairC F)[j]? = some v → W.cell? ((⟨R, 0, none⟩ : Addr).add j) = some v := by
  intro j v hv
  have hadd : (⟨R, 0, none⟩ : Addr).add j = ⟨R, j, none⟩ := by unfold Addr.add; split <;> simp_all
  rw [hadd]
  have hlt : j < F.length * 2 := by
    have := (List.getElem?_eq_some_iff.1 hv).1
    rw [pairC_len] at this
    exact this
  obtain ⟨p, hp⟩ : ∃ p, F[j / 2]? = some p := ⟨_, List.getElem?_eq_getElem (by omega)⟩
  obtain ⟨a, b⟩ := pairC_at F (j / 2) p hp
  obtain ⟨q, hq, _, c0, c1⟩ := h (j / 2) p hp
  cases hq
  rcases (by omega : j = j / 2 * 2 ∨ j = j / 2 * 2 + 1) with e | e
  · rw [e] at hv ⊢
    rw [a] at hv
    cases hv
    exact c0
  · rw [e] at hv ⊢
    rw [b] at hv
    cases hv
    exact c1
theorem pairC_one (F : List (Int × Int)) : ∀ v ∈ pairC F, v.oneCell' = true := by
  induction F with
  | nil => intro v hv; cases hv
  | cons p r ih =>
    intro v hv
    rcases List.mem_cons.1 hv with rfl | hv
    · rfl
    · rcases List.mem_cons.1 hv with rfl | hv
      · rfl
      · exact ih v hv

set_option maxRecDepth 100000 in
set_option maxHeartbeats 4000000 in
/-- the sequence, called with a range's yield -/
theorem tried1_any {l X Br Bs R cap size : Nat} {F : List (Int × Int)} {cs : List (List (Int × Int))} {J Jx : List (List (Int × Int)) → World → Prop} (W : World)
    (hJ : ∀ p A B, J p A → Below W.heap.size A B → J p B) (hY : YieldsC l X W.heap.size cs J Jx) (hX : X < W.heap.size) (hBX : Bs ≠ X)
    (hr : Boxed W Br 93 (.slice (some ⟨R, 0, none⟩) F.length cap)) (hs : Boxed W Bs 3 (.int .i64 size)) (hF : PrRd W (some ⟨R, 0, none⟩) F) (hN2 : F.length ≤ 1000)
    (hcs : cs = gC F size [] 0) (hp : J [] W) :
    Calls Tryz.prog 237 #[.func (.yield l) #[] #[], .pointer (some ⟨Br, 0, none⟩), .pointer (some ⟨Bs, 0, none⟩)] W fun e W' => (∃ v, e = .returned v) ∧ (J cs W' ∨ ∃ p, Jx p W') := by
  obtain ⟨i0, hi, hz0, hz1, hz2⟩ := info_parts Tryz.infoP137
  have hmf : ∀ (fn : Fn) (first cap : Array Value) (w : World), Sem.run Tryz.prog (Instr.makeFunc fn first cap) w = .ok (.func fn first cap) w := fun _ _ _ _ => rfl
  have hcf := cf_choose
  have hbl := hs.lt
  have hrl := hr.lt
  obtain ⟨N, hN⟩ : ∃ N, F.length = N := ⟨_, rfl⟩
  have H := Lib.hid (fun (W2 : World) (P Bp Bg : Nat) (hO : Off Bs W.heap.size Bp Bg P X) (hP : W.heap.size ≤ P) (hc : CtxC W2 Bs W.heap.size Bp Bg l P size N) (hpl : PlcAt W2 P F) (hB : Below W.heap.size W W2) =>
    choose_any (size := size) (F := F) hJ hY hX hP hN (by omega) hO size F [] 0 W2 [] ⟨rfl, rfl, fun _ _ => rfl, Nat.le_refl _, Nat.zero_le _⟩ (by simp) (Nat.zero_le _) hc hpl (hJ _ _ _ hp hB) ⟨[], by rw [hcs]; simp⟩)
  have y0 := Boxed.new W 196 (.func (.yield l) #[] #[])
  have B0 := below_one W (.cells #[.func (.yield l) #[] #[]] 196)
  have r0 := (hr.alloc (.cells #[.func (.yield l) #[] #[]] 196)).cell
  have HF := Lib.hid (And.intro hF (And.intro hs (And.intro hr hcs)))
  rw [hN] at r0
  have hN3 : N ≤ 1000 := by omega
  clear hJ hY hp hF hs hr hcs
  go_enter Tryz.func237, Tryz.ntmps237
  go_wp2_with (at_make; refine wpList_make_full _ rfl _ _ 93 rfl (W.heap.size + 1) 137 i0 (.agg #[.int .i64 0, .int .i64 0]) 2 Tryz.underlying93 hi hz0 hz1 _ _ _ _ N rfl rfl rfl rfl ?c1 ?c2 ?c3 ?_)
  case c1 => rw [hz2]; omega
  case c2 => unfold maxLen; omega
  case c3 => simp
  intro w1 hown hgrow
  have BB : Below (W.heap.size + 1) (W.alloc (.cells #[.func (.yield l) #[] #[]] 196)) w1 := (Below.refl _ _).grown hgrow (by simp) (by simp)
  have hs1 : W.heap.size + 1 < w1.heap.size := (hown.lt _ rfl).2
  rcases hown.2 with ⟨hbad, _⟩ | ⟨g, cap', cur, he, _, hg, _, _, hcs, _⟩
  · cases hbad
  obtain ⟨rfl, rfl⟩ : W.heap.size + 1 = g ∧ N = cap' := by
    simp only [Value.slice.injEq, Option.some.injEq, Addr.mk.injEq, and_true] at he
    exact ⟨he.1, he.2.2⟩
  have r1 := (BB.cell (p := ⟨Br, 0, none⟩) (by show Br < W.heap.size + 1; omega)).trans r0
  have BA := BB.alloc (by omega) (.cells #[ppV (W.heap.size + 1) N] 93)
  have p0 := Boxed.new w1 93 (ppV (W.heap.size + 1) N)
  have hg1 : (w1.alloc (.cells #[ppV (W.heap.size + 1) N] 93)).heap[W.heap.size + 1]? = some (.cells cur 137 (0, 0)) := (Below.heap_alloc w1 _ _ hs1).trans hg
  have r2 : (w1.alloc (.cells #[ppV (W.heap.size + 1) N] 93)).cell? ⟨Br, 0, none⟩ = some (.slice (some ⟨R, 0, none⟩) N cap) := (World.cell?_of_block (Below.heap_alloc w1 _ _ (by show Br < w1.heap.size; omega))).trans r1
  have hsrc := pairC_cell ((HF.out.1.below B0).below (w' := w1.alloc (.cells #[ppV (W.heap.size + 1) N] 93)) (by rw [World.size_alloc]; exact BA))
  have HC := Lib.hid (And.intro hg1 (And.intro hsrc (And.intro BA p0)))
  have hlenF : (pairC F).length = N * 2 := by rw [pairC_len, hN]
  have hsz2 : (Tryz.prog.info? 137).map (·.size) = some 2 := by rw [hi]; simp [hz1]
  have HL := Lib.hid (And.intro hlenF (And.intro hsz2 hcs))
  clear hown hgrow hg hg1 hsrc BA BB r0 r1 p0 hlenF hsz2 hcs he
  go_wp2_with (refine wpList_copy2 (o := ⟨some 11, _, _, _, _, _⟩) rfl (.tmp 9) (.tmp 10) 93 93 rfl 137 Tryz.underlying93 HL.out.2.1 (W.heap.size + 1) N N ⟨R, 0, none⟩ cap (by rfl) (by rfl) cur 137 HC.out.1 (pairC F) HL.out.1 HL.out.2.2 HC.out.2.1 (pairC_one F) ?_)
  intro w2 hg2 hoth hsz hbel
  have p2 : Boxed w2 w1.heap.size 93 (ppV (W.heap.size + 1) N) := (hoth _ (by omega)).trans HC.out.2.2.2
  have BC := HC.out.2.2.1.trans (hbel (W.heap.size + 1) (Nat.le_refl _))
  have p3 := Boxed.alloc p2 (.cells #[.func (.func 238) #[] #[.pointer (some ⟨Bs, 0, none⟩), .pointer (some ⟨W.heap.size, 0, none⟩), .pointer (some ⟨w1.heap.size, 0, none⟩), .pointer (some ⟨w2.heap.size, 0, none⟩)]] 71)
  have g3 := Boxed.new w2 71 (.func (.func 238) #[] #[.pointer (some ⟨Bs, 0, none⟩), .pointer (some ⟨W.heap.size, 0, none⟩), .pointer (some ⟨w1.heap.size, 0, none⟩), .pointer (some ⟨w2.heap.size, 0, none⟩)])
  have BD := BC.alloc (by omega) (.cells #[.func (.func 238) #[] #[.pointer (some ⟨Bs, 0, none⟩), .pointer (some ⟨W.heap.size, 0, none⟩), .pointer (some ⟨w1.heap.size, 0, none⟩), .pointer (some ⟨w2.heap.size, 0, none⟩)]] 71)
  have BE := B0.trans (BD.mono (by omega))
  have y3 := (BD.block W.heap.size (by omega)).trans y0
  have s3 := (BE.block Bs hbl).trans HF.out.2.1
  have pl3 : PlcAt (w2.alloc (.cells #[.func (.func 238) #[] #[.pointer (some ⟨Bs, 0, none⟩), .pointer (some ⟨W.heap.size, 0, none⟩), .pointer (some ⟨w1.heap.size, 0, none⟩), .pointer (some ⟨w2.heap.size, 0, none⟩)]] 71)) (W.heap.size + 1) F := (Below.heap_alloc w2 _ _ (by omega)).trans hg2
  have call := H.out _ (W.heap.size + 1) w1.heap.size w2.heap.size ⟨⟨hBX, by omega⟩, ⟨by omega, by omega⟩, ⟨by omega, by omega⟩, ⟨by omega, by omega⟩⟩ (by omega) ⟨s3, y3, p3, g3⟩ pl3 BE
  have qc := g3.cell
  rw [hsz] at call qc
  have HK := Lib.hid (show Calls Tryz.prog 238 #[.int .i64 0, .int .i64 0, .pointer (some ⟨Bs, 0, none⟩), .pointer (some ⟨W.heap.size, 0, none⟩), .pointer (some ⟨w1.heap.size, 0, none⟩), .pointer (some ⟨w1.heap.size + 1, 0, none⟩)] _ _ from call)
  clear call pl3 s3 y3 BE BD g3 p3 p2 BC hg2 hoth hbel H HC HL B0 y0 r2
  go_wp2_with fail
  refine HK.out.mono ?_
  rintro e W' ⟨b, rfl, _, ht, hf⟩
  rw [List.nil_append, ← HF.out.2.2.2] at ht
  have HB := Lib.hid (And.intro ht hf)
  clear ht hf qc HK
  go_wp2
  go_end0
  refine ⟨⟨_, rfl⟩, ?_⟩
  cases b with
  | true => exact .inl (HB.out.1 rfl).2
  | false => exact .inr (HB.out.2 rfl)
end Go.Proofs.YthdnpcpimggjnaaGreatDoor

namespace Go.Proofs.YthdnpcpimggjnaaGreatDoor
open Go.RowKit Go.Shelf
attribute [local go_sem] Oper.semAt_some

theorem triedCovers_any (R N cap size : Nat) (w : World) :
    Calls Tryz.prog 171 #[.slice (some ⟨R, 0, none⟩) N cap, .int .i64 size] w fun e w' => e = .returned (.func (.func 237) #[] #[.pointer (some ⟨w.heap.size, 0, none⟩), .pointer (some ⟨w.heap.size + 1, 0, none⟩)]) ∧
      w' = (w.alloc (.cells #[.slice (some ⟨R, 0, none⟩) N cap] 93)).alloc (.cells #[.int .i64 size] 3) := by
  have hmf : ∀ (fn : Fn) (first cap : Array Value) (w : World), Sem.run Tryz.prog (Instr.makeFunc fn first cap) w = .ok (.func fn first cap) w := fun _ _ _ _ => rfl
  go_enter Tryz.func171, Tryz.ntmps171
  go_wp2
  go_ret
  exact ⟨rfl, rfl⟩

theorem cf_tried1 (args : Array Value) (w : World) : Sem.run Tryz.prog (callFunc 237 args) w = .ok (.enter 237 args) w := by kernel_rfl

/-! a range over the choices -/
section
variable {Q : Exit → Act → World → Prop} {a : Act} {w : World} {n : Nat}

theorem range_covers {g : Operand} {pt : Tmp} {assign body : Code} {X Br Bs R cap size : Nat} {F : List (Int × Int)} {cs : List (List (Int × Int))}
    (hg : a.eval g = .func (.func 237) #[] #[.pointer (some ⟨Br, 0, none⟩), .pointer (some ⟨Bs, 0, none⟩)])
    (hX : X < w.heap.size) (hBX : Bs ≠ X) (hr : Boxed w Br 93 (.slice (some ⟨R, 0, none⟩) F.length cap)) (hs : Boxed w Bs 3 (.int .i64 size)) (hF : PrRd w (some ⟨R, 0, none⟩) F) (hN2 : F.length ≤ 1000) (hcs : cs = gC F size [] 0)
    (I : List (List (Int × Int)) → World → Prop) (Ix : Code → List (List (Int × Int)) → World → Prop)
    (hI : ∀ p A B, I p A → Below w.heap.size A B → I p B)
    (hIx : ∀ c p A l o o', Ix c p A → w.heap.size ≤ l → A.heap[l]? = some o → o.isCells = false → Ix c p (A.putObj l o'))
    (h0 : I [] w) (A1 : Value → Act)
    (hassign : ∀ l vx W (K : Act → World → Prop), K (A1 vx) W → assign.wpIn (Fence.wide.inRound l) 5 Tryz.prog (Exit.then K (fun _ _ _ => False)) { tmps := a.tmps.setIfInBounds pt vx, defers := [] } W)
    (hbody : ∀ l pre x P W, (∃ rest, cs = pre ++ x :: rest) → I pre W → PrRd W (some ⟨P, 0, none⟩) x →
      body.wpIn (Fence.wide.inRound l) 5 Tryz.prog (fun e _ W' => KeepX X (.slice none 0 0) W W' ∧ KeepsFrom w.heap.size W W' ∧ (match e with
        | .normal => I (pre ++ [x]) W'
        | .ret => Ix .ret (pre ++ [x]) W'
        | .exit id => Ix (.exit id) (pre ++ [x]) W'
        | .goto t => Ix (.goto t) (pre ++ [x]) W'
        | .panic _ => False
        | .outgrown => False)) (A1 (.slice (some ⟨P, 0, none⟩) x.length x.length)) W)
    (hdone : ∀ D W, w.heap.size ≤ D → I cs W → W.heap[D]? = some (.deferred (some [])) → Q .normal { a with defers := { target := .collected D, args := #[] } :: a.defers } W)
    (hstop : ∀ D c p W, w.heap.size ≤ D → Ix c p W → W.heap[D]? = some (.deferred (some [])) → c.wpIn Fence.wide n Tryz.prog Q { a with defers := { target := .collected D, args := #[] } :: a.defers } W) :
    (Code.rangeFunc g #[pt] assign body).wpIn Fence.wide n Tryz.prog Q a w := by
  refine wpIn_rangeFunc fun fn _ => ?_
  obtain ⟨rcd, hrc⟩ : ∃ rcd : LoopState → Option Code → Loop, rcd = fun st pe => { state := st, pending := pe, fn, tmps := a.tmps, params := #[pt], assign, body, defers := w.heap.size } := ⟨_, rfl⟩
  obtain ⟨W1, hW1⟩ : ∃ W1, (w.alloc (.deferred (some []))).alloc (.loop (rcd .ready none)) = W1 := ⟨_, rfl⟩
  have hsz : W1.heap.size = w.heap.size + 1 + 1 := by rw [← hW1]; simp
  have hL : W1.heap[w.heap.size + 1]? = some (.loop (rcd .ready none)) := by
    have h := World.alloc_heap_new (w.alloc (.deferred (some []))) (.loop (rcd .ready none))
    rw [World.size_alloc, hW1] at h
    exact h
  have hD : W1.heap[w.heap.size]? = some (.deferred (some [])) := by
    rw [← hW1]
    exact (Below.heap_alloc _ _ _ (by simp)).trans (World.alloc_heap_new w _)
  have hB1 : Below w.heap.size w W1 := by rw [← hW1]; exact below_two w _ _
  refine ⟨w.heap.size + 1, [{ target := .collected w.heap.size, args := #[] }], W1, { target := .fn (.func 237) #[.pointer (some ⟨Br, 0, none⟩), .pointer (some ⟨Bs, 0, none⟩)], args := #[.func (.yield (w.heap.size + 1)) #[] #[]] }, W1, 237,
    #[.func (.yield (w.heap.size + 1)) #[] #[], .pointer (some ⟨Br, 0, none⟩), .pointer (some ⟨Bs, 0, none⟩)], W1, ?_, ?_, fun _ _ => trivial, ?_, fun h => Bool.noConfusion h, ?_⟩
  · rw [← hW1, hrc]
    exact run_enterLoop_outer _ _ _ _ _
  · simp only [resolve, hg]
    simp [go_sem]
  · simp [invoke, go_sem]
  refine callsIn_wide.2 ((tried1_any (l := w.heap.size + 1) (X := X) (cs := cs) (R := R) (cap := cap) (size := size) (F := F)
    (J := fun p W => I p W ∧ W.heap[w.heap.size + 1]? = some (.loop (rcd .ready none)) ∧ W.heap[w.heap.size]? = some (.deferred (some [])))
    (Jx := fun p W => ∃ c, Ix c p W ∧ W.heap[w.heap.size + 1]? = some (.loop (rcd .done (some c))) ∧ W.heap[w.heap.size]? = some (.deferred (some [])))
    W1 ?_ ?_ (by omega) hBX ((hB1.block _ hr.lt).trans hr) ((hB1.block _ hs.lt).trans hs) (hF.below hB1) hN2 hcs ⟨hI _ _ _ h0 hB1, hL, hD⟩).mono ?_)
  · rintro p A B ⟨h1, h2, h3⟩ hb
    exact ⟨hI p A B h1 (hb.mono (by omega)), (hb.block _ (by omega)).trans h2, (hb.block _ (by omega)).trans h3⟩
  · rintro pre x P W hw ⟨hi, hl, hd⟩ hP hPW hx m
    have hlt : w.heap.size + 1 < W.heap.size := (Array.getElem?_eq_some_iff.1 hl).1
    have hy := run_yield (P := Tryz.prog) (args := #[.slice (some ⟨P, 0, none⟩) x.length x.length]) hl (by rw [hrc]; simp)
    have hbeg := run_beginRound (P := Tryz.prog) hl (by rw [hrc])
    have hl2 : (W.putObj (w.heap.size + 1) (.loop { rcd .ready none with state := .busy })).heap[w.heap.size + 1]? = some (.loop { rcd .ready none with state := .busy }) := World.putObj_heap_same hlt
    have hd2 : (W.putObj (w.heap.size + 1) (.loop { rcd .ready none with state := .busy })).heap[w.heap.size]? = some (.deferred (some [])) := (World.putObj_heap_other (by omega)).trans hd
    have hov2 : PrRd (W.putObj (w.heap.size + 1) (.loop { rcd .ready none with state := .busy })) (some ⟨P, 0, none⟩) x := by
      intro k p hk
      obtain ⟨b, e, hlb, c0, c1⟩ := hx k p hk
      cases e
      have hsame : (W.putObj (w.heap.size + 1) (.loop { rcd .ready none with state := .busy })).heap[P]? = W.heap[P]? := World.putObj_heap_other (by omega)
      exact ⟨P, rfl, by simp; exact hlb, (World.cell?_of_block hsame).trans c0, (World.cell?_of_block hsame).trans c1⟩
    have h5 : RoundIn Fence.wide 5 Tryz.prog (w.heap.size + 1) (rcd .ready none).fn (((rcd .ready none).params.zip #[.slice (some ⟨P, 0, none⟩) x.length x.length]).foldl (fun tmps (t, a) => tmps.setIfInBounds t a) (rcd .ready none).tmps) (rcd .ready none).assign (rcd .ready none).body W
        fun e W' => ∃ b : Bool, e = .returned (.bool b) ∧ KeepX X (.slice none 0 0) W W' ∧ (b = true → I (pre ++ [x]) W' ∧ W'.heap[w.heap.size + 1]? = some (.loop (rcd .ready none)) ∧ W'.heap[w.heap.size]? = some (.deferred (some []))) ∧
          (b = false → ∃ c, Ix c (pre ++ [x]) W' ∧ W'.heap[w.heap.size + 1]? = some (.loop (rcd .done (some c))) ∧ W'.heap[w.heap.size]? = some (.deferred (some []))) := by
      refine roundIn_of_wpIn trivial ?_
      rw [hrc] at hbeg hl2 hd2 hov2 ⊢
      have hfo : (#[pt].zip #[Value.slice (some ⟨P, 0, none⟩) x.length x.length]).foldl (fun tmps (t, a) => tmps.setIfInBounds t a) a.tmps = a.tmps.setIfInBounds pt (.slice (some ⟨P, 0, none⟩) x.length x.length) := by simp
      dsimp only
      rw [hfo]
      refine hassign _ _ W _ ⟨_, hbeg, wpIn_mono (hbody _ pre x P _ hw (hI _ _ _ hi (below_put _ (by omega))) hov2) ?_⟩
      rintro e a3 W3 ⟨hkx, hkf, hm⟩
      have hl3 := hkf.same _ _ (by omega) hl2 rfl
      have hd3 := hkf.same _ _ (Nat.le_refl _) hd2 rfl
      have hlt3 : w.heap.size + 1 < W3.heap.size := (Array.getElem?_eq_some_iff.1 hl3).1
      have fin : ∀ o, KeepX X (.slice none 0 0) W (W3.putObj (w.heap.size + 1) o) := fun o => ((keepX_put _ hl rfl).trans hkx).trans (keepX_put _ hl3 rfl)
      have dfr : ∀ o, (W3.putObj (w.heap.size + 1) o).heap[w.heap.size]? = some (.deferred (some [])) := fun o => (World.putObj_heap_other (by omega)).trans hd3
      cases e with
      | normal => exact ⟨_, _, run_endRound none hl3, true, rfl, fin _, fun _ => ⟨hI _ _ _ hm (below_put _ (by omega)), World.putObj_heap_same hlt3, dfr _⟩, fun h => Bool.noConfusion h⟩
      | ret => exact ⟨_, _, run_endRound (some .ret) hl3, false, rfl, fin _, fun h => Bool.noConfusion h, fun _ => ⟨.ret, hIx _ _ _ _ _ _ hm (by omega) hl3 rfl, World.putObj_heap_same hlt3, dfr _⟩⟩
      | exit id => exact ⟨_, _, run_endRound (some (.exit id)) hl3, false, rfl, fin _, fun h => Bool.noConfusion h, fun _ => ⟨.exit id, hIx _ _ _ _ _ _ hm (by omega) hl3 rfl, World.putObj_heap_same hlt3, dfr _⟩⟩
      | goto t => exact ⟨_, _, run_endRound (some (.goto t)) hl3, false, rfl, fin _, fun h => Bool.noConfusion h, fun _ => ⟨.goto t, hIx _ _ _ _ _ _ hm (by omega) hl3 rfl, World.putObj_heap_same hlt3, dfr _⟩⟩
      | panic ch => exact hm.elim
      | outgrown => exact hm.elim
    exact ⟨_, _, _, _, hy, h5.1, fun c cs _ => h5.2 c cs (room_wide _)⟩
  · rintro e W2 ⟨⟨v, rfl⟩, (⟨hi, hl, hd⟩ | ⟨p, c, hx, hl, hd⟩)⟩
    · have he := run_endLoop (P := Tryz.prog) hl (by rw [hrc]; simp)
      refine ⟨none, _, by rw [he, hrc], ?_⟩
      exact hdone w.heap.size _ (Nat.le_refl _) (hI _ _ _ hi (below_put _ (by omega))) ((World.putObj_heap_other (by omega)).trans hd)
    · have he := run_endLoop (P := Tryz.prog) hl (by rw [hrc]; simp)
      refine ⟨some c, _, by rw [he, hrc], ?_⟩
      exact hstop w.heap.size c p _ (Nat.le_refl _) (hIx _ _ _ _ _ _ hx (by omega) hl rfl) ((World.putObj_heap_other (by omega)).trans hd)
end
end Go.Proofs.YthdnpcpimggjnaaGreatDoor
