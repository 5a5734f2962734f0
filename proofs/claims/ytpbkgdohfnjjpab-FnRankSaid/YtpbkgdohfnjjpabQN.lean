/-
  The program's closure that goes through choices: a call of it, by induction on how many are left.
-/
import Derived.Test.YtpbkgdohfnjjpabQM
import Derived.StillTailTactics
namespace Go.Proofs.Ytpbkgdohfnjjpab
open Go.RowKit Go.Shelf
attribute [local go_sem] Oper.semAt_some

theorem cf_choose (args : Array Value) (w : World) : Sem.run Try.prog (callFunc 101 args) w = .ok (.enter 101 args) w := by kernel_rfl
/-- a region, and what follows it, apart: a proof of what follows that stands within the region's is copied for each order -/
theorem wp_via {P : Program} {c : Code} {Q : Exit → Act → World → Prop} {a : Act} {w : World} {F : Act} {W : World} (h : c.wp P (Exit.then (fun a' w' => a' = F ∧ w' = W) fun _ _ _ => False) a w) (k : Q .normal F W) : c.wp P Q a w :=
  wp_mono h fun e a' w' hq => by
    cases e with
    | normal =>
      obtain ⟨rfl, rfl⟩ := hq
      exact k
    | _ => exact False.elim hq
/-- two places exchanged, in the world -/
def swW (W : World) (P c i : Nat) (x y : Int × Int) : World :=
  (((W.setCell ⟨P, c * 2, none⟩ (.int .i64 y.1)).setCell ⟨P, c * 2 + 1, none⟩ (.int .i64 y.2)).setCell ⟨P, i * 2, none⟩ (.int .i64 x.1)).setCell ⟨P, i * 2 + 1, none⟩ (.int .i64 x.2)
theorem swW_plc {W : World} {P c i : Nat} {L : List (Int × Int)} {x y : Int × Int} (h : PlcAt W P L) (hc : L[c]? = some x) (hi : L[i]? = some y) : PlcAt (swW W P c i x y) P (swp L c i) := by
  have h1 := h.set (k := c) (List.getElem?_eq_some_iff.1 hc).1 y.1 y.2
  have h2 := h1.set (k := i) (by rw [List.length_set]; exact (List.getElem?_eq_some_iff.1 hi).1) x.1 x.2
  unfold swp
  rw [getD_of hc, getD_of hi]
  exact h2
theorem swW_keep {W : World} {X P N c i : Nat} (x y : Int × Int) : KeepX X (ppV P N) W (swW W P c i x y) :=
  (((keepX_cell _ _).trans (keepX_cell _ _)).trans (keepX_cell _ _)).trans (keepX_cell _ _)
theorem swW_below {W : World} {B P c i : Nat} (x y : Int × Int) (h : B ≤ P) : Below B W (swW W P c i x y) :=
  ((((Below.refl B W).setCell (p := ⟨P, c * 2, none⟩) h _).setCell (p := ⟨P, c * 2 + 1, none⟩) h _).setCell (p := ⟨P, i * 2, none⟩) h _).setCell (p := ⟨P, i * 2 + 1, none⟩) h _
theorem swW_size (W : World) (P c i : Nat) (x y : Int × Int) : (swW W P c i x y).heap.size = W.heap.size := by unfold swW; simp

theorem set_some {W : World} {P j k : Nat} {cs : Array Value} {t : TypeId} (h : W.heap[P]? = some (.cells cs t (0, 0))) (hk : k < cs.size) (v : Value) : ∃ u, (W.setCell ⟨P, j, none⟩ v).cell? ⟨P, k, none⟩ = some u := by
  have := Go.heap_setCell_same W P j cs t v h
  exact ⟨(cs.setIfInBounds j v)[k]'(by simp; exact hk), by simp [World.cell?, this, hk]⟩
/-- one call of the closure, m being left -/
def ChoosesP (l X _B0 Bs By Bp Bg P N size : Nat) (F : List (Int × Int)) (cs : List (List (Int × Int))) (J Jx : List (List (Int × Int)) → World → Prop) (m : Nat) : Prop :=
  ∀ (L px : List (Int × Int)) (nx : Nat) (W : World) (pre : List (List (Int × Int))), Lie F L px nx → px.length + m = size → nx ≤ N → CtxC W Bs By Bp Bg l P size N → PlcAt W P L → J pre W → (∃ rest, cs = pre ++ gC F m px nx ++ rest) →
    Calls Try.prog 101 #[.int .i64 px.length, .int .i64 nx, .pointer (some ⟨Bs, 0, none⟩), .pointer (some ⟨By, 0, none⟩), .pointer (some ⟨Bp, 0, none⟩), .pointer (some ⟨Bg, 0, none⟩)] W (GoPostC X P N J Jx (pre ++ gC F m px nx) L W)

set_option maxRecDepth 100000 in
set_option maxHeartbeats 8000000 in
theorem choose_step {l X B0 Bs By Bp Bg P N size m : Nat} {cs : List (List (Int × Int))} {J Jx : List (List (Int × Int)) → World → Prop} {F : List (Int × Int)}
    (hJ : ∀ p A B, J p A → Below B0 A B → J p B) (hX : X < B0) (hP : B0 ≤ P) (hN : F.length = N) (hN2 : N ≤ 1000) (hO : Off Bs By Bp Bg P X)
    (ih : ChoosesP l X B0 Bs By Bp Bg P N size F cs J Jx m) : ChoosesP l X B0 Bs By Bp Bg P N size F cs J Jx (m + 1) := by
  intro L px nx W pre hl hs hnx hc hp hj hw
  have hmo : Try.prog.follows .mixedOrders = true := by kernel_rfl
  have hcf := cf_choose
  have cz := hc.s.cell
  have hle := hl.le
  have hne : ((px.length : Int) == (size : Int)) = false := beq_eq_false_iff_ne.2 (by omega)
  have H := Lib.hid (And.intro hJ (And.intro hX (And.intro hP (And.intro hN (And.intro hO (And.intro ih (And.intro hl (And.intro hs hw))))))))
  have HS := Lib.hid (And.intro hc (And.intro hp hj))
  obtain ⟨c, hcl⟩ : ∃ c, px.length = c := ⟨_, rfl⟩
  have HCL := Lib.hid hcl
  rw [hcl] at hne hle ⊢
  clear hJ hX hP hN hO ih hl hs hw hc hp hj hcl
  go_enter Try.func101, Try.ntmps101
  go_wp2
  go_loopw [9] (fun i wr => ∃ d : Nat, nx + d ≤ N ∧ i = .int .i64 ((nx + d : Nat) : Int) ∧ CtxC wr Bs By Bp Bg l P size N ∧ PlcAt wr P L ∧ KeepX X (ppV P N) W wr ∧ J (pre ++ gTo F m px nx d) wr)
    (fun i _ => N - (intOf i).toNat)
  case atStart => exact ⟨0, by omega, rfl, HS.out.1, HS.out.2.1, KeepX.refl _ _ _, by rw [show gTo F m px nx 0 = [] from rfl, List.append_nil]; exact HS.out.2.2⟩
  case round =>
    clear HS cz hne
    obtain ⟨d, hd, rfl, hc, hp, hk, hj⟩ := hrel
    have cp := hc.p.cell
    obtain ⟨i, hi⟩ : ∃ i, nx + d = i := ⟨_, rfl⟩
    have HI := Lib.hid hi
    rw [hi] at hd ⊢
    by_cases hlt : i < N
    · have hil : i < L.length := by rw [H.out.2.2.2.2.2.2.1.len, H.out.2.2.2.1]; exact hlt
      have hcl : c < L.length := by omega
      obtain ⟨x, hx⟩ : ∃ x, L[c]? = some x := ⟨_, List.getElem?_eq_getElem hcl⟩
      obtain ⟨y, hy⟩ : ∃ y, L[i]? = some y := ⟨_, List.getElem?_eq_getElem hil⟩
      obtain ⟨cx0, cx1⟩ := hp.cell hx
      obtain ⟨cy0, cy1⟩ := hp.cell hy
      have fx0 := hp.free (c * 2)
      have fx1 := hp.free (c * 2 + 1)
      have fy0 := hp.free (i * 2)
      have fy1 := hp.free (i * 2 + 1)
      have hpl : (pairC L).toArray.size = L.length * 2 := by simp [pairC_len]
      obtain ⟨u0, g0⟩ := set_some (j := c * 2) (k := i * 2) hp (by omega) (.int .i64 y.1)
      obtain ⟨u1, g1⟩ := set_some (j := c * 2 + 1) (k := i * 2 + 1) (Go.heap_setCell_same wr P (c * 2) _ _ (.int .i64 y.1) hp) (by rw [Array.size_setIfInBounds]; omega) (.int .i64 y.2)
      clear hpl
      have hi1 : (i : Int) < (N : Int) := by omega
      have hc1 : (c : Int) < (N : Int) := by omega
      have HQ := Lib.hid (And.intro hc (And.intro hp (And.intro hk (And.intro hj (And.intro hx hy)))))
      clear hc hp hk hj hx hy
      obtain ⟨W2, hW2⟩ : ∃ W2, ((((wr.setCell ⟨P, c * 2, none⟩ (.int .i64 y.1)).setCell ⟨P, c * 2 + 1, none⟩ (.int .i64 y.2)).setCell ⟨P, i * 2, none⟩ (.int .i64 x.1)).setCell ⟨P, i * 2 + 1, none⟩ (.int .i64 x.2)).drew = W2 := ⟨_, rfl⟩
      have HW2 := Lib.hid hW2
      have e2 : (swW wr P c i x y).drew = W2 := hW2
      have k2 : KeepX X (ppV P N) wr W2 := e2 ▸ (swW_keep x y).trans (KeepX.drew _)
      have p2 : PlcAt W2 P (swp L c i) := e2 ▸ (swW_plc HQ.out.2.1 HQ.out.2.2.2.2.1 HQ.out.2.2.2.2.2).drew
      have b2 : Below B0 wr W2 := e2 ▸ (swW_below x y H.out.2.2.1).drew
      have c2 := HQ.out.1.keep k2 H.out.2.2.2.2.1
      have j2 := H.out.1 _ _ _ HQ.out.2.2.2.1 b2
      have hle2 : px.length ≤ nx := H.out.2.2.2.2.2.2.1.le
      have l2 := H.out.2.2.2.2.2.2.1.next (i := i) (by have := HI.out; omega) (by rw [H.out.2.2.2.1]; exact hlt)
      have cg := HQ.out.1.g.cell
      have nG : ¬ Bg = P := H.out.2.2.2.2.1.g.2
      have nB : ¬ Bp = P := H.out.2.2.2.2.1.p.2
      obtain ⟨rest, hr⟩ := H.out.2.2.2.2.2.2.2.2
      obtain ⟨r2, hr2⟩ := gTo_split F m px nx d (by rw [H.out.2.2.2.1]; have := HI.out; omega)
      have hgs := gTo_succ F m px nx d
      rw [HI.out] at hgs
      rw [hgs] at hr2
      have call := H.out.2.2.2.2.2.1 (swp L px.length i) (px ++ [F.getD i (0, 0)]) (i + 1) W2 (pre ++ gTo F m px nx d) l2 (by rw [List.length_append, List.length_singleton]; have := H.out.2.2.2.2.2.2.2.1; omega) (by omega) c2 (by rw [HCL.out]; exact p2) j2 ⟨r2 ++ rest, by rw [hr, hr2]; simp only [List.append_assoc]⟩
      rw [List.append_assoc, ← hgs, List.length_append, List.length_singleton, HCL.out] at call
      have HC := Lib.hid (And.intro call (And.intro k2 c2))
      clear call k2 p2 b2 j2 l2 hr hr2 hgs hW2 e2 hle2 c2
      go_wp2
      apply wp_via
      case h =>
        go_region
        all_goals exact ⟨rfl, rfl⟩
      case k =>
        go_wp2_with fail
        rw [HW2.out]
        refine HC.out.1.mono ?_
        rintro e w5 ⟨b, rfl, hk5, ht, hf⟩
        have k5 := HC.out.2.1.trans hk5
        have c5 := HC.out.2.2.keep hk5 H.out.2.2.2.2.1
        clear hk5
        cases b with
        | false =>
          have HB := Lib.hid (And.intro ((HQ.out.2.2.1).trans k5) (hf rfl))
          clear ht hf k5 c5 HW2 HC g0 g1 cx0 cx1 cy0 cy1 fx0 fx1 fy0 fy1 cp cg nG nB
          go_wp2
          go_ret
          exact ⟨false, rfl, HB.out.1, fun h => Bool.noConfusion h, fun _ => HB.out.2⟩
        | true =>
          obtain ⟨p5, j5⟩ := ht rfl
          clear ht hf HW2 HC g0 g1 cx0 cx1 cy0 cy1 fx0 fx1 fy0 fy1 cp cg nG
          have hsl := swp_len L c i
          have hsc : (swp L c i)[c]? = some y := by
            rw [swp_at L c i c hcl hil]
            by_cases e : c = i
            · subst e
              rw [if_pos rfl, ← HQ.out.2.2.2.2.2, get_getD hcl]
            · rw [if_neg e, if_pos rfl, getD_of HQ.out.2.2.2.2.2]
          have hsi : (swp L c i)[i]? = some x := by
            rw [swp_at L c i i hcl hil, if_pos rfl, getD_of HQ.out.2.2.2.2.1]
          obtain ⟨cx0, cx1⟩ := p5.cell hsc
          obtain ⟨cy0, cy1⟩ := p5.cell hsi
          have fx0 := p5.free (c * 2)
          have fx1 := p5.free (c * 2 + 1)
          have fy0 := p5.free (i * 2)
          have fy1 := p5.free (i * 2 + 1)
          have cp := c5.p.cell
          have hpl : (pairC (swp L c i)).toArray.size = L.length * 2 := by simp [pairC_len, hsl]
          obtain ⟨u2, g0⟩ := set_some (j := c * 2) (k := i * 2) p5 (by omega) (.int .i64 x.1)
          obtain ⟨u3, g1⟩ := set_some (j := c * 2 + 1) (k := i * 2 + 1) (Go.heap_setCell_same w5 P (c * 2) _ _ (.int .i64 x.1) p5) (by rw [Array.size_setIfInBounds]; omega) (.int .i64 x.2)
          obtain ⟨W6, hW6⟩ : ∃ W6, ((((w5.setCell ⟨P, c * 2, none⟩ (.int .i64 x.1)).setCell ⟨P, c * 2 + 1, none⟩ (.int .i64 x.2)).setCell ⟨P, i * 2, none⟩ (.int .i64 y.1)).setCell ⟨P, i * 2 + 1, none⟩ (.int .i64 y.2)).drew = W6 := ⟨_, rfl⟩
          have HW6 := Lib.hid hW6
          have e6 : (swW w5 P c i y x).drew = W6 := hW6
          have k6 : KeepX X (ppV P N) w5 W6 := e6 ▸ (swW_keep y x).trans (KeepX.drew _)
          have p6 : PlcAt W6 P (swp (swp L c i) c i) := e6 ▸ (swW_plc p5 hsc hsi).drew
          rw [swp_swp L c i hcl hil] at p6
          have b6 : Below B0 w5 W6 := e6 ▸ (swW_below y x H.out.2.2.1).drew
          have HF := Lib.hid (And.intro (c5.keep k6 H.out.2.2.2.2.1) (And.intro p6 (And.intro (HQ.out.2.2.1.trans (k5.trans k6)) (H.out.1 _ _ _ j5 b6))))
          clear hpl hsl hsc hsi p5 j5 k5 c5 hW6 e6 k6 p6 b6
          go_wp2
          apply wp_via
          case h =>
            go_region
            all_goals exact ⟨rfl, rfl⟩
          case k =>
            go_wp2
            rw [HW6.out]
            go_roundw
            case rel => exact ⟨d + 1, by have := HI.out; omega, by rw [← Nat.add_assoc, HI.out]; go_num, HF.out⟩
            case measure => simp [intOf]; omega
    · have hiN : i = N := by omega
      have hdd : d = F.length - nx := by rw [H.out.2.2.2.1]; have := HI.out; omega
      have HB := Lib.hid (And.intro hk (And.intro hp (by rw [hdd, gTo_all] at hj; exact hj : J (pre ++ gC F (m + 1) px nx) wr)))
      have hi1 : ¬ (i : Int) < (N : Int) := by omega
      clear hc hk hp hj hdd hiN
      go_wp2
      go_ret
      exact ⟨true, rfl, HB.out.1, fun _ => HB.out.2, fun h => Bool.noConfusion h⟩
end Go.Proofs.Ytpbkgdohfnjjpab
