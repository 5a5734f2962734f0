/-
  A range over the choices: the program's triedCovers, and the range's law for it.
-/
import Derived.Test.YtglhbejdnfafgabQO
namespace Go.Proofs.Ytglhbejdnfafgab
open Go.RowKit Go.Shelf
attribute [local go_sem] Oper.semAt_some

theorem triedCovers_any (R N cap size : Nat) (w : World) :
    Calls Try.prog 39 #[.slice (some ⟨R, 0, none⟩) N cap, .int .i64 size] w fun e w' => e = .returned (.func (.func 41) #[] #[.pointer (some ⟨w.heap.size, 0, none⟩), .pointer (some ⟨w.heap.size + 1, 0, none⟩)]) ∧
      w' = (w.alloc (.cells #[.slice (some ⟨R, 0, none⟩) N cap] 54)).alloc (.cells #[.int .i64 size] 3) := by
  have hmf : ∀ (fn : Fn) (first cap : Array Value) (w : World), Sem.run Try.prog (Instr.makeFunc fn first cap) w = .ok (.func fn first cap) w := fun _ _ _ _ => rfl
  go_enter Try.func39, Try.ntmps39
  go_wp2
  go_ret
  exact ⟨rfl, rfl⟩

theorem cf_tried1 (args : Array Value) (w : World) : Sem.run Try.prog (callFunc 41 args) w = .ok (.enter 41 args) w := by kernel_rfl

/-! a range over the choices -/
section
variable {Q : Exit → Act → World → Prop} {a : Act} {w : World} {n : Nat}

theorem range_covers {g : Operand} {pt : Tmp} {assign body : Code} {X Br Bs R cap size : Nat} {F : List (Int × Int)} {cs : List (List (Int × Int))}
    (hg : a.eval g = .func (.func 41) #[] #[.pointer (some ⟨Br, 0, none⟩), .pointer (some ⟨Bs, 0, none⟩)])
    (hX : X < w.heap.size) (hBX : Bs ≠ X) (hr : Boxed w Br 54 (.slice (some ⟨R, 0, none⟩) F.length cap)) (hs : Boxed w Bs 3 (.int .i64 size)) (hF : PrRd w (some ⟨R, 0, none⟩) F) (hN2 : F.length ≤ 1000) (hcs : cs = gC F size [] 0)
    (I : List (List (Int × Int)) → World → Prop) (Ix : Code → List (List (Int × Int)) → World → Prop)
    (hI : ∀ p A B, I p A → Below w.heap.size A B → I p B)
    (hIx : ∀ c p A l o o', Ix c p A → w.heap.size ≤ l → A.heap[l]? = some o → o.isCells = false → Ix c p (A.putObj l o'))
    (h0 : I [] w) (A1 : Value → Act)
    (hassign : ∀ l vx W (K : Act → World → Prop), K (A1 vx) W → assign.wpIn (Fence.wide.inRound l) 5 Try.prog (Exit.then K (fun _ _ _ => False)) { tmps := a.tmps.setIfInBounds pt vx, defers := [] } W)
    (hbody : ∀ l pre x P W, (∃ rest, cs = pre ++ x :: rest) → I pre W → PrRd W (some ⟨P, 0, none⟩) x →
      body.wpIn (Fence.wide.inRound l) 5 Try.prog (fun e _ W' => KeepX X (.slice none 0 0) W W' ∧ KeepsFrom w.heap.size W W' ∧ (match e with
        | .normal => I (pre ++ [x]) W'
        | .ret => Ix .ret (pre ++ [x]) W'
        | .exit id => Ix (.exit id) (pre ++ [x]) W'
        | .goto t => Ix (.goto t) (pre ++ [x]) W'
        | .panic _ => False
        | .outgrown => False)) (A1 (.slice (some ⟨P, 0, none⟩) x.length x.length)) W)
    (hdone : ∀ D W, w.heap.size ≤ D → I cs W → W.heap[D]? = some (.deferred (some [])) → Q .normal { a with defers := { target := .collected D, args := #[] } :: a.defers } W)
    (hstop : ∀ D c p W, w.heap.size ≤ D → Ix c p W → W.heap[D]? = some (.deferred (some [])) → c.wpIn Fence.wide n Try.prog Q { a with defers := { target := .collected D, args := #[] } :: a.defers } W) :
    (Code.rangeFunc g #[pt] assign body).wpIn Fence.wide n Try.prog Q a w := by
  refine wpIn_rangeFunc fun fn _ => ?_
  obtain ⟨rcd, hrc⟩ : ∃ rcd : LoopState → Option Code → Loop, rcd = fun st pe => { state := st, pending := pe, fn, tmps := a.tmps, params := #[pt], assign, body, defers := w.heap.size } := ⟨_, rfl⟩
  obtain ⟨W1, hW1⟩ : ∃ W1, (w.alloc (.deferred (some []))).alloc (.loop (rcd .ready none)) = W1 := ⟨_, rfl⟩
  have hsz : W1.heap.size = w.heap.size + 1 + 1 := by rw [← hW1]; simp
  have hL : W1.heap[w.heap.size + 1]? = some (.loop (rcd .ready none)) := by
    have h := World.alloc_heap_new (w.alloc (.deferred (some []))) (.loop (rcd .ready none))
    rw [World.size_alloc, hW1] at h
    exact h
  have hD : W1.heap[w.heap.size]? = some (.deferred (some [])) := by
    rw [← hW1]
    exact (Below.heap_alloc _ _ _ (by simp)).trans (World.alloc_heap_new w _)
  have hB1 : Below w.heap.size w W1 := by rw [← hW1]; exact below_two w _ _
  refine ⟨w.heap.size + 1, [{ target := .collected w.heap.size, args := #[] }], W1, { target := .fn (.func 41) #[.pointer (some ⟨Br, 0, none⟩), .pointer (some ⟨Bs, 0, none⟩)], args := #[.func (.yield (w.heap.size + 1)) #[] #[]] }, W1, 41,
    #[.func (.yield (w.heap.size + 1)) #[] #[], .pointer (some ⟨Br, 0, none⟩), .pointer (some ⟨Bs, 0, none⟩)], W1, ?_, ?_, fun _ _ => trivial, ?_, fun h => Bool.noConfusion h, ?_⟩
  · rw [← hW1, hrc]
    exact run_enterLoop_outer _ _ _ _ _
  · simp only [resolve, hg]
    simp [go_sem]
  · simp [invoke, go_sem]
  refine callsIn_wide.2 ((tried1_any (l := w.heap.size + 1) (X := X) (cs := cs) (R := R) (cap := cap) (size := size) (F := F)
    (J := fun p W => I p W ∧ W.heap[w.heap.size + 1]? = some (.loop (rcd .ready none)) ∧ W.heap[w.heap.size]? = some (.deferred (some [])))
    (Jx := fun p W => ∃ c, Ix c p W ∧ W.heap[w.heap.size + 1]? = some (.loop (rcd .done (some c))) ∧ W.heap[w.heap.size]? = some (.deferred (some [])))
    W1 ?_ ?_ (by omega) hBX ((hB1.block _ hr.lt).trans hr) ((hB1.block _ hs.lt).trans hs) (hF.below hB1) hN2 hcs ⟨hI _ _ _ h0 hB1, hL, hD⟩).mono ?_)
  · rintro p A B ⟨h1, h2, h3⟩ hb
    exact ⟨hI p A B h1 (hb.mono (by omega)), (hb.block _ (by omega)).trans h2, (hb.block _ (by omega)).trans h3⟩
  · rintro pre x P W hw ⟨hi, hl, hd⟩ hP hPW hx m
    have hlt : w.heap.size + 1 < W.heap.size := (Array.getElem?_eq_some_iff.1 hl).1
    have hy := run_yield (P := Try.prog) (args := #[.slice (some ⟨P, 0, none⟩) x.length x.length]) hl (by rw [hrc]; simp)
    have hbeg := run_beginRound (P := Try.prog) hl (by rw [hrc])
    have hl2 : (W.putObj (w.heap.size + 1) (.loop { rcd .ready none with state := .busy })).heap[w.heap.size + 1]? = some (.loop { rcd .ready none with state := .busy }) := World.putObj_heap_same hlt
    have hd2 : (W.putObj (w.heap.size + 1) (.loop { rcd .ready none with state := .busy })).heap[w.heap.size]? = some (.deferred (some [])) := (World.putObj_heap_other (by omega)).trans hd
    have hov2 : PrRd (W.putObj (w.heap.size + 1) (.loop { rcd .ready none with state := .busy })) (some ⟨P, 0, none⟩) x := by
      intro k p hk
      obtain ⟨b, e, hlb, c0, c1⟩ := hx k p hk
      cases e
      have hsame : (W.putObj (w.heap.size + 1) (.loop { rcd .ready none with state := .busy })).heap[P]? = W.heap[P]? := World.putObj_heap_other (by omega)
      exact ⟨P, rfl, by simp; exact hlb, (World.cell?_of_block hsame).trans c0, (World.cell?_of_block hsame).trans c1⟩
    have h5 : RoundIn Fence.wide 5 Try.prog (w.heap.size + 1) (rcd .ready none).fn (((rcd .ready none).params.zip #[.slice (some ⟨P, 0, none⟩) x.length x.length]).foldl (fun tmps (t, a) => tmps.setIfInBounds t a) (rcd .ready none).tmps) (rcd .ready none).assign (rcd .ready none).body W
        fun e W' => ∃ b : Bool, e = .returned (.bool b) ∧ KeepX X (.slice none 0 0) W W' ∧ (b = true → I (pre ++ [x]) W' ∧ W'.heap[w.heap.size + 1]? = some (.loop (rcd .ready none)) ∧ W'.heap[w.heap.size]? = some (.deferred (some []))) ∧
          (b = false → ∃ c, Ix c (pre ++ [x]) W' ∧ W'.heap[w.heap.size + 1]? = some (.loop (rcd .done (some c))) ∧ W'.heap[w.heap.size]? = some (.deferred (some []))) := by
      refine roundIn_of_wpIn trivial ?_
      rw [hrc] at hbeg hl2 hd2 hov2 ⊢
      have hfo : (#[pt].zip #[Value.slice (some ⟨P, 0, none⟩) x.length x.length]).foldl (fun tmps (t, a) => tmps.setIfInBounds t a) a.tmps = a.tmps.setIfInBounds pt (.slice (some ⟨P, 0, none⟩) x.length x.length) := by simp
      dsimp only
      rw [hfo]
      refine hassign _ _ W _ ⟨_, hbeg, wpIn_mono (hbody _ pre x P _ hw (hI _ _ _ hi (below_put _ (by omega))) hov2) ?_⟩
      rintro e a3 W3 ⟨hkx, hkf, hm⟩
      have hl3 := hkf.same _ _ (by omega) hl2 rfl
      have hd3 := hkf.same _ _ (Nat.le_refl _) hd2 rfl
      have hlt3 : w.heap.size + 1 < W3.heap.size := (Array.getElem?_eq_some_iff.1 hl3).1
      have fin : ∀ o, KeepX X (.slice none 0 0) W (W3.putObj (w.heap.size + 1) o) := fun o => ((keepX_put _ hl rfl).trans hkx).trans (keepX_put _ hl3 rfl)
      have dfr : ∀ o, (W3.putObj (w.heap.size + 1) o).heap[w.heap.size]? = some (.deferred (some [])) := fun o => (World.putObj_heap_other (by omega)).trans hd3
      cases e with
      | normal => exact ⟨_, _, run_endRound none hl3, true, rfl, fin _, fun _ => ⟨hI _ _ _ hm (below_put _ (by omega)), World.putObj_heap_same hlt3, dfr _⟩, fun h => Bool.noConfusion h⟩
      | ret => exact ⟨_, _, run_endRound (some .ret) hl3, false, rfl, fin _, fun h => Bool.noConfusion h, fun _ => ⟨.ret, hIx _ _ _ _ _ _ hm (by omega) hl3 rfl, World.putObj_heap_same hlt3, dfr _⟩⟩
      | exit id => exact ⟨_, _, run_endRound (some (.exit id)) hl3, false, rfl, fin _, fun h => Bool.noConfusion h, fun _ => ⟨.exit id, hIx _ _ _ _ _ _ hm (by omega) hl3 rfl, World.putObj_heap_same hlt3, dfr _⟩⟩
      | goto t => exact ⟨_, _, run_endRound (some (.goto t)) hl3, false, rfl, fin _, fun h => Bool.noConfusion h, fun _ => ⟨.goto t, hIx _ _ _ _ _ _ hm (by omega) hl3 rfl, World.putObj_heap_same hlt3, dfr _⟩⟩
      | panic ch => exact hm.elim
      | outgrown => exact hm.elim
    exact ⟨_, _, _, _, hy, h5.1, fun c cs _ => h5.2 c cs (room_wide _)⟩
  · rintro e W2 ⟨⟨v, rfl⟩, (⟨hi, hl, hd⟩ | ⟨p, c, hx, hl, hd⟩)⟩
    · have he := run_endLoop (P := Try.prog) hl (by rw [hrc]; simp)
      refine ⟨none, _, by rw [he, hrc], ?_⟩
      exact hdone w.heap.size _ (Nat.le_refl _) (hI _ _ _ hi (below_put _ (by omega))) ((World.putObj_heap_other (by omega)).trans hd)
    · have he := run_endLoop (P := Try.prog) hl (by rw [hrc]; simp)
      refine ⟨some c, _, by rw [he, hrc], ?_⟩
      exact hstop w.heap.size c p _ (Nat.le_refl _) (hIx _ _ _ _ _ _ hx (by omega) hl rfl) ((World.putObj_heap_other (by omega)).trans hd)
end
end Go.Proofs.Ytglhbejdnfafgab
