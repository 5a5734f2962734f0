/-
  The program's hasCover.
-/
import Derived.Test.YtpbkgdohfnjjpabQO
import Derived.Test.YtpbkgdohfnjjpabEF
namespace Go.Proofs.Ytpbkgdohfnjjpab
open Go.RowKit Go.Shelf
attribute [local go_sem] Oper.semAt_some

theorem triedCovers_any (R N cap size : Nat) (w : World) :
    Calls Try.prog 94 #[.slice (some ⟨R, 0, none⟩) N cap, .int .i64 size] w fun e w' => e = .returned (.func (.func 100) #[] #[.pointer (some ⟨w.heap.size, 0, none⟩), .pointer (some ⟨w.heap.size + 1, 0, none⟩)]) ∧
      w' = (w.alloc (.cells #[.slice (some ⟨R, 0, none⟩) N cap] 91)).alloc (.cells #[.int .i64 size] 3) := by
  have hmf : ∀ (fn : Fn) (first cap : Array Value) (w : World), Sem.run Try.prog (Instr.makeFunc fn first cap) w = .ok (.func fn first cap) w := fun _ _ _ _ => rfl
  go_enter Try.func94, Try.ntmps94
  go_wp2
  go_ret
  exact ⟨rfl, rfl⟩

theorem cf_tried1 (args : Array Value) (w : World) : Sem.run Try.prog (callFunc 100 args) w = .ok (.enter 100 args) w := by kernel_rfl

/-! a range over the choices -/
section
variable {Q : Exit → Act → World → Prop} {a : Act} {w : World} {n : Nat}

theorem range_covers {g : Operand} {pt : Tmp} {assign body : Code} {X Br Bs R cap size : Nat} {F : List (Int × Int)} {cs : List (List (Int × Int))}
    (hg : a.eval g = .func (.func 100) #[] #[.pointer (some ⟨Br, 0, none⟩), .pointer (some ⟨Bs, 0, none⟩)])
    (hX : X < w.heap.size) (hBX : Bs ≠ X) (hr : Boxed w Br 91 (.slice (some ⟨R, 0, none⟩) F.length cap)) (hs : Boxed w Bs 3 (.int .i64 size)) (hF : PrRd w (some ⟨R, 0, none⟩) F) (hN2 : F.length ≤ 1000) (hcs : cs = gC F size [] 0)
    (I : List (List (Int × Int)) → World → Prop) (Ix : Code → List (List (Int × Int)) → World → Prop)
    (hI : ∀ p A B, I p A → Below w.heap.size A B → I p B)
    (hIx : ∀ c p A l o o', Ix c p A → w.heap.size ≤ l → A.heap[l]? = some o → o.isCells = false → Ix c p (A.putObj l o'))
    (h0 : I [] w) (A1 : Value → Act)
    (hassign : ∀ l vx W (K : Act → World → Prop), K (A1 vx) W → assign.wpIn (Fence.wide.inRound l) 5 Try.prog (Exit.then K (fun _ _ _ => False)) { tmps := a.tmps.setIfInBounds pt vx, defers := [] } W)
    (hbody : ∀ l pre x P W, (∃ rest, cs = pre ++ x :: rest) → I pre W → PrRd W (some ⟨P, 0, none⟩) x →
      body.wpIn (Fence.wide.inRound l) 5 Try.prog (fun e _ W' => KeepX X (.slice none 0 0) W W' ∧ KeepsFrom w.heap.size W W' ∧ (match e with
        | .normal => I (pre ++ [x]) W'
        | .ret => Ix .ret (pre ++ [x]) W'
        | .exit id => Ix (.exit id) (pre ++ [x]) W'
        | .goto t => Ix (.goto t) (pre ++ [x]) W'
        | .panic _ => False
        | .outgrown => False)) (A1 (.slice (some ⟨P, 0, none⟩) x.length x.length)) W)
    (hdone : ∀ D W, w.heap.size ≤ D → I cs W → W.heap[D]? = some (.deferred (some [])) → Q .normal { a with defers := { target := .collected D, args := #[] } :: a.defers } W)
    (hstop : ∀ D c p W, w.heap.size ≤ D → Ix c p W → W.heap[D]? = some (.deferred (some [])) → c.wpIn Fence.wide n Try.prog Q { a with defers := { target := .collected D, args := #[] } :: a.defers } W) :
    (Code.rangeFunc g #[pt] assign body).wpIn Fence.wide n Try.prog Q a w := by
  refine wpIn_rangeFunc fun fn _ => ?_
  obtain ⟨rcd, hrc⟩ : ∃ rcd : LoopState → Option Code → Loop, rcd = fun st pe => { state := st, pending := pe, fn, tmps := a.tmps, params := #[pt], assign, body, defers := w.heap.size } := ⟨_, rfl⟩
  obtain ⟨W1, hW1⟩ : ∃ W1, (w.alloc (.deferred (some []))).alloc (.loop (rcd .ready none)) = W1 := ⟨_, rfl⟩
  have hsz : W1.heap.size = w.heap.size + 1 + 1 := by rw [← hW1]; simp
  have hL : W1.heap[w.heap.size + 1]? = some (.loop (rcd .ready none)) := by
    have h := World.alloc_heap_new (w.alloc (.deferred (some []))) (.loop (rcd .ready none))
    rw [World.size_alloc, hW1] at h
    exact h
  have hD : W1.heap[w.heap.size]? = some (.deferred (some [])) := by
    rw [← hW1]
    exact (Below.heap_alloc _ _ _ (by simp)).trans (World.alloc_heap_new w _)
  have hB1 : Below w.heap.size w W1 := by rw [← hW1]; exact below_two w _ _
  refine ⟨w.heap.size + 1, [{ target := .collected w.heap.size, args := #[] }], W1, { target := .fn (.func 100) #[.pointer (some ⟨Br, 0, none⟩), .pointer (some ⟨Bs, 0, none⟩)], args := #[.func (.yield (w.heap.size + 1)) #[] #[]] }, W1, 100,
    #[.func (.yield (w.heap.size + 1)) #[] #[], .pointer (some ⟨Br, 0, none⟩), .pointer (some ⟨Bs, 0, none⟩)], W1, ?_, ?_, fun _ _ => trivial, ?_, fun h => Bool.noConfusion h, ?_⟩
  · rw [← hW1, hrc]
    exact run_enterLoop_outer _ _ _ _ _
  · simp only [resolve, hg]
    simp [go_sem]
  · simp [invoke, go_sem]
  refine callsIn_wide.2 ((tried1_any (l := w.heap.size + 1) (X := X) (cs := cs) (R := R) (cap := cap) (size := size) (F := F)
    (J := fun p W => I p W ∧ W.heap[w.heap.size + 1]? = some (.loop (rcd .ready none)) ∧ W.heap[w.heap.size]? = some (.deferred (some [])))
    (Jx := fun p W => ∃ c, Ix c p W ∧ W.heap[w.heap.size + 1]? = some (.loop (rcd .done (some c))) ∧ W.heap[w.heap.size]? = some (.deferred (some [])))
    W1 ?_ ?_ (by omega) hBX ((hB1.block _ hr.lt).trans hr) ((hB1.block _ hs.lt).trans hs) (hF.below hB1) hN2 hcs ⟨hI _ _ _ h0 hB1, hL, hD⟩).mono ?_)
  · rintro p A B ⟨h1, h2, h3⟩ hb
    exact ⟨hI p A B h1 (hb.mono (by omega)), (hb.block _ (by omega)).trans h2, (hb.block _ (by omega)).trans h3⟩
  · rintro pre x P W hw ⟨hi, hl, hd⟩ hP hPW hx m
    have hlt : w.heap.size + 1 < W.heap.size := (Array.getElem?_eq_some_iff.1 hl).1
    have hy := run_yield (P := Try.prog) (args := #[.slice (some ⟨P, 0, none⟩) x.length x.length]) hl (by rw [hrc]; simp)
    have hbeg := run_beginRound (P := Try.prog) hl (by rw [hrc])
    have hl2 : (W.putObj (w.heap.size + 1) (.loop { rcd .ready none with state := .busy })).heap[w.heap.size + 1]? = some (.loop { rcd .ready none with state := .busy }) := World.putObj_heap_same hlt
    have hd2 : (W.putObj (w.heap.size + 1) (.loop { rcd .ready none with state := .busy })).heap[w.heap.size]? = some (.deferred (some [])) := (World.putObj_heap_other (by omega)).trans hd
    have hov2 : PrRd (W.putObj (w.heap.size + 1) (.loop { rcd .ready none with state := .busy })) (some ⟨P, 0, none⟩) x := by
      intro k p hk
      obtain ⟨b, e, hlb, c0, c1⟩ := hx k p hk
      cases e
      have hsame : (W.putObj (w.heap.size + 1) (.loop { rcd .ready none with state := .busy })).heap[P]? = W.heap[P]? := World.putObj_heap_other (by omega)
      exact ⟨P, rfl, by simp; exact hlb, (World.cell?_of_block hsame).trans c0, (World.cell?_of_block hsame).trans c1⟩
    have h5 : RoundIn Fence.wide 5 Try.prog (w.heap.size + 1) (rcd .ready none).fn (((rcd .ready none).params.zip #[.slice (some ⟨P, 0, none⟩) x.length x.length]).foldl (fun tmps (t, a) => tmps.setIfInBounds t a) (rcd .ready none).tmps) (rcd .ready none).assign (rcd .ready none).body W
        fun e W' => ∃ b : Bool, e = .returned (.bool b) ∧ KeepX X (.slice none 0 0) W W' ∧ (b = true → I (pre ++ [x]) W' ∧ W'.heap[w.heap.size + 1]? = some (.loop (rcd .ready none)) ∧ W'.heap[w.heap.size]? = some (.deferred (some []))) ∧
          (b = false → ∃ c, Ix c (pre ++ [x]) W' ∧ W'.heap[w.heap.size + 1]? = some (.loop (rcd .done (some c))) ∧ W'.heap[w.heap.size]? = some (.deferred (some []))) := by
      refine roundIn_of_wpIn trivial ?_
      rw [hrc] at hbeg hl2 hd2 hov2 ⊢
      have hfo : (#[pt].zip #[Value.slice (some ⟨P, 0, none⟩) x.length x.length]).foldl (fun tmps (t, a) => tmps.setIfInBounds t a) a.tmps = a.tmps.setIfInBounds pt (.slice (some ⟨P, 0, none⟩) x.length x.length) := by simp
      dsimp only
      rw [hfo]
      refine hassign _ _ W _ ⟨_, hbeg, wpIn_mono (hbody _ pre x P _ hw (hI _ _ _ hi (below_put _ (by omega))) hov2) ?_⟩
      rintro e a3 W3 ⟨hkx, hkf, hm⟩
      have hl3 := hkf.same _ _ (by omega) hl2 rfl
      have hd3 := hkf.same _ _ (Nat.le_refl _) hd2 rfl
      have hlt3 : w.heap.size + 1 < W3.heap.size := (Array.getElem?_eq_some_iff.1 hl3).1
      have fin : ∀ o, KeepX X (.slice none 0 0) W (W3.putObj (w.heap.size + 1) o) := fun o => ((keepX_put _ hl rfl).trans hkx).trans (keepX_put _ hl3 rfl)
      have dfr : ∀ o, (W3.putObj (w.heap.size + 1) o).heap[w.heap.size]? = some (.deferred (some [])) := fun o => (World.putObj_heap_other (by omega)).trans hd3
      cases e with
      | normal => exact ⟨_, _, run_endRound none hl3, true, rfl, fin _, fun _ => ⟨hI _ _ _ hm (below_put _ (by omega)), World.putObj_heap_same hlt3, dfr _⟩, fun h => Bool.noConfusion h⟩
      | ret => exact ⟨_, _, run_endRound (some .ret) hl3, false, rfl, fin _, fun h => Bool.noConfusion h, fun _ => ⟨.ret, hIx _ _ _ _ _ _ hm (by omega) hl3 rfl, World.putObj_heap_same hlt3, dfr _⟩⟩
      | exit id => exact ⟨_, _, run_endRound (some (.exit id)) hl3, false, rfl, fin _, fun h => Bool.noConfusion h, fun _ => ⟨.exit id, hIx _ _ _ _ _ _ hm (by omega) hl3 rfl, World.putObj_heap_same hlt3, dfr _⟩⟩
      | goto t => exact ⟨_, _, run_endRound (some (.goto t)) hl3, false, rfl, fin _, fun h => Bool.noConfusion h, fun _ => ⟨.goto t, hIx _ _ _ _ _ _ hm (by omega) hl3 rfl, World.putObj_heap_same hlt3, dfr _⟩⟩
      | panic ch => exact hm.elim
      | outgrown => exact hm.elim
    exact ⟨_, _, _, _, hy, h5.1, fun c cs _ => h5.2 c cs (room_wide _)⟩
  · rintro e W2 ⟨⟨v, rfl⟩, (⟨hi, hl, hd⟩ | ⟨p, c, hx, hl, hd⟩)⟩
    · have he := run_endLoop (P := Try.prog) hl (by rw [hrc]; simp)
      refine ⟨none, _, by rw [he, hrc], ?_⟩
      exact hdone w.heap.size _ (Nat.le_refl _) (hI _ _ _ hi (below_put _ (by omega))) ((World.putObj_heap_other (by omega)).trans hd)
    · have he := run_endLoop (P := Try.prog) hl (by rw [hrc]; simp)
      refine ⟨some c, _, by rw [he, hrc], ?_⟩
      exact hstop w.heap.size c p _ (Nat.le_refl _) (hIx _ _ _ _ _ _ hx (by omega) hl rfl) ((World.putObj_heap_other (by omega)).trans hd)
end
end Go.Proofs.Ytpbkgdohfnjjpab

namespace Go.Proofs.Ytpbkgdohfnjjpab
open Go.RowKit Go.Shelf
attribute [local go_sem] Oper.semAt_some

theorem keepsFrom_below {B : Nat} {W W' : World} (h : Below W.heap.size W W') : KeepsFrom B W W' := ⟨h.size, fun k _ _ hk _ => (h.block k (Array.getElem?_eq_some_iff.1 hk).1).trans hk⟩
theorem gC_mem {F x : List (Int × Int)} {size : Nat} {pre rest : List (List (Int × Int))} (h : gC F size [] 0 = pre ++ x :: rest) : x.length = size ∧ ∀ r, r ∈ x → r ∈ F := by
  have hx : x ∈ gC F size [] 0 := by rw [h]; simp
  obtain ⟨s, hs, hl, hF⟩ := gC_sub _ _ _ _ _ hx
  rw [List.nil_append] at hs
  rw [hs]
  exact ⟨hl, hF⟩
set_option maxRecDepth 100000 in
set_option maxHeartbeats 8000000 in
theorem hasCover_in {xs : List Int} (Rx : Rl xs.length xs) {F : List (Int × Int)} (hF : ∀ r, r ∈ F → isRect xs.length r) (hN2 : F.length ≤ 1000) (R cap size : Nat) (hz : size ≤ 1000) (w : World) (hrd : PrRd w (some ⟨R, 0, none⟩) F) :
    CallsIn Fence.wide 7 Try.prog 85 #[relOf xs, .slice (some ⟨R, 0, none⟩) F.length cap, .int .i64 size] w fun e w' => ∃ b : Bool, e = .returned (.bool b) ∧ (b = true ↔ PC xs.length F size xs) ∧ Below w.heap.size w w' := by
  have hmo : Try.prog.follows .mixedOrders = true := by kernel_rfl
  obtain ⟨N, hN⟩ : ∃ N, F.length = N := ⟨_, rfl⟩
  have x0 := (RelAt.new w xs).alloc (.cells #[.bool false] 4)
  have b0 := Boxed.new (w.alloc (.cells #[.int .i64 xs.length, .int .i64 (rowAt xs 0), .int .i64 (rowAt xs 1), .int .i64 (rowAt xs 2), .int .i64 (rowAt xs 3)] 50)) 4 (.bool false)
  have B0 := below_two w (.cells #[.int .i64 xs.length, .int .i64 (rowAt xs 0), .int .i64 (rowAt xs 1), .int .i64 (rowAt xs 2), .int .i64 (rowAt xs 3)] 50) (.cells #[.bool false] 4)
  rw [World.size_alloc] at b0
  have H := Lib.hid (And.intro Rx (And.intro hF (And.intro hrd (And.intro x0 (And.intro b0 B0)))))
  have h1 := Rx.one
  have h4 := Rx.four
  clear Rx hF hrd
  rw [hN]
  refine callsIn_of_wp_marks Try.func85 rfl trivial ?_ rfl
  simp only [Try.ntmps85, List.size_toArray, List.length_cons, List.length_nil, Nat.reduceAdd, Nat.reduceSub, Array.replicate_succ, Array.replicate_zero, List.push_toArray, List.append_toArray, List.nil_append, List.cons_append]
  gi_wp2_with fail
  refine ⟨trivial, ?_⟩
  refine (callsIn_wide.2 (triedCovers_any R N cap size _)).mono ?_
  rintro e w1 ⟨rfl, rfl⟩
  gi_wp2
  have x2 := (x0.alloc (.cells #[.slice (some ⟨R, 0, none⟩) N cap] 91)).alloc (.cells #[.int .i64 size] 3)
  have c2 := (Boxed.alloc b0 (.cells #[.slice (some ⟨R, 0, none⟩) N cap] 91)).alloc (.cells #[.int .i64 size] 3)
  have r2 := (Boxed.new ((w.alloc (.cells #[.int .i64 xs.length, .int .i64 (rowAt xs 0), .int .i64 (rowAt xs 1), .int .i64 (rowAt xs 2), .int .i64 (rowAt xs 3)] 50)).alloc (.cells #[.bool false] 4)) 91 (.slice (some ⟨R, 0, none⟩) N cap)).alloc (.cells #[.int .i64 size] 3)
  have s2 := Boxed.new (((w.alloc (.cells #[.int .i64 xs.length, .int .i64 (rowAt xs 0), .int .i64 (rowAt xs 1), .int .i64 (rowAt xs 2), .int .i64 (rowAt xs 3)] 50)).alloc (.cells #[.bool false] 4)).alloc (.cells #[.slice (some ⟨R, 0, none⟩) N cap] 91)) 3 (.int .i64 size)
  have B2 := (B0.alloc (by simp; omega) (.cells #[.slice (some ⟨R, 0, none⟩) N cap] 91)).alloc (by simp; omega) (.cells #[.int .i64 size] 3)
  have z2 : ((((w.alloc (.cells #[.int .i64 xs.length, .int .i64 (rowAt xs 0), .int .i64 (rowAt xs 1), .int .i64 (rowAt xs 2), .int .i64 (rowAt xs 3)] 50)).alloc (.cells #[.bool false] 4)).alloc (.cells #[.slice (some ⟨R, 0, none⟩) N cap] 91)).alloc (.cells #[.int .i64 size] 3)).heap.size = w.heap.size + 4 := by simp
  simp only [World.size_alloc] at r2 s2
  obtain ⟨W0, hW0⟩ : ∃ W0, ((((w.alloc (.cells #[.int .i64 xs.length, .int .i64 (rowAt xs 0), .int .i64 (rowAt xs 1), .int .i64 (rowAt xs 2), .int .i64 (rowAt xs 3)] 50)).alloc (.cells #[.bool false] 4)).alloc (.cells #[.slice (some ⟨R, 0, none⟩) N cap] 91)).alloc (.cells #[.int .i64 size] 3)) = W0 := ⟨_, rfl⟩
  rw [hW0] at x2 c2 r2 s2 B2 z2 ⊢
  have f2 := H.out.2.2.1.below B2
  rw [← hN] at r2
  have hX : w.heap.size + 1 < W0.heap.size := by omega
  have hs2 : w.heap.size ≤ W0.heap.size := by omega
  clear hW0 x0 b0 B0
  refine range_covers (X := w.heap.size + 1) (Br := w.heap.size + 1 + 1) (Bs := w.heap.size + 1 + 1 + 1) (R := R) (cap := cap) (size := size) (F := F) (cs := gC F size [] 0) rfl hX (by omega) r2 s2 f2 hN2 rfl
    (fun p W => RelAt W w.heap.size xs ∧ Boxed W (w.heap.size + 1) 4 (.bool false) ∧ (∀ x, x ∈ p → unionL xs.length x ≠ xs) ∧ Below w.heap.size w W)
    (fun c _ W => c = .ret ∧ Boxed W (w.heap.size + 1) 4 (.bool true) ∧ PC xs.length F size xs ∧ Below w.heap.size w W)
    (fun p A B h hb => ⟨h.1.below hb (by omega), (hb.block _ hX).trans h.2.1, h.2.2.1, h.2.2.2.trans (hb.mono hs2)⟩)
    (fun c p A l o o' h hl _ _ => ⟨h.1, (World.putObj_heap_other (by omega)).trans h.2.1, h.2.2.1, h.2.2.2.trans (below_put o' (by omega))⟩)
    ⟨x2, c2, fun x hx => absurd hx (by simp), B2⟩
    (fun vx => { tmps := #[relOf xs, .slice (some ⟨R, 0, none⟩) N cap, .int .i64 size, .pointer (some ⟨w.heap.size, 0, none⟩), undef, undef, .pointer (some ⟨w.heap.size + 1, 0, none⟩), vx, undef, undef, undef, .slice (some ⟨R, 0, none⟩) N cap, .int .i64 size, .func (.func 100) #[] #[.pointer (some ⟨w.heap.size + 1 + 1, 0, none⟩), .pointer (some ⟨w.heap.size + 1 + 1 + 1, 0, none⟩)], vx, undef, undef, undef, undef, undef, undef, undef, undef, undef, undef, undef, undef, undef, undef, undef, undef], defers := [] })
    ?assign ?body ?done ?stop
  case assign =>
    intro l vx W K hK
    gi_wp2
    exact hK
  case body =>
    rintro l pre x P W ⟨rest, hr⟩ ⟨hx, hb, hno, hB⟩ hxr
    obtain ⟨hxz, hm⟩ := gC_mem hr
    have hpc : unionL xs.length x = xs → PC xs.length F size xs := fun e => ⟨x, by rw [hr]; simp, e⟩
    have hlen : x.length ≤ 1000 := by omega
    clear hxz
    have p0 := hx.cell0
    have hxl := hx.lt
    have hbl := hb.lt
    have z1 := zero_new W xs.length
    have HX := Lib.hid (And.intro hx (And.intro hb (And.intro hno (And.intro hB (And.intro hm (And.intro hpc hxr))))))
    have a1 := hx.alloc (.cells #[.int .i64 xs.length, .int .i64 0, .int .i64 0, .int .i64 0, .int .i64 0] 50)
    have B1 := below_one W (.cells #[.int .i64 xs.length, .int .i64 0, .int .i64 0, .int .i64 0, .int .i64 0] 50)
    clear hx hb hno hB hm hpc hxr hr x2 c2 r2 s2 B2 f2
    gi_wp2
    gi_loopw [20, 10] (fun i _ wr => ∃ k : Nat, k ≤ x.length ∧ i = .int .i64 k ∧ RelAt wr W.heap.size (unionL xs.length (x.take k)) ∧ RelAt wr w.heap.size xs ∧ Below W.heap.size W wr)
      (fun i _ _ => x.length - (intOf i).toNat)
    case atStart => exact ⟨0, Nat.zero_le _, rfl, z1, a1, B1⟩
    case round =>
      clear z1 a1 B1 p0
      obtain ⟨k, hk, rfl, hz, hx, hB⟩ := hrel
      have hisr : ∀ r, r ∈ x → isRect xs.length r := fun r hr => H.out.2.1 r (HX.out.2.2.2.2.1 r hr)
      have hZl : (unionL xs.length (x.take k)).length = xs.length := (union_rl h1 h4 fun r hr => hisr r (List.mem_of_mem_take hr)).len
      obtain ⟨Z, hZ⟩ : ∃ Z, unionL xs.length (x.take k) = Z := ⟨_, rfl⟩
      rw [hZ] at hz hZl
      by_cases hlt : k < x.length
      · obtain ⟨p, hp⟩ : ∃ p, x[k]? = some p := ⟨_, List.getElem?_eq_getElem hlt⟩
        obtain ⟨s, t, rfl, _, _⟩ := hisr p (List.mem_of_getElem? hp)
        obtain ⟨P', hPe, _, c0, c1⟩ := (HX.out.2.2.2.2.2.2.below hB) k _ hp
        cases hPe
        have hst : unionL xs.length (x.take (k + 1)) = rectTo Z (s.val : Int) (t.val : Int) xs.length := by
          rw [List.take_add_one, hp]
          show unionL xs.length (x.take k ++ [_]) = _
          rw [union_snoc, hZ]
        have hwp := fun W => withRectangle_any Z (s.val : Int) (t.val : Int) W (by omega)
        have hrl : relOf Z = .agg #[.int .i64 xs.length, .int .i64 (rowAt Z 0), .int .i64 (rowAt Z 1), .int .i64 (rowAt Z 2), .int .i64 (rowAt Z 3)] := by rw [← hZl]
        rw [hrl, hZl] at hwp
        have HST := Lib.hid (And.intro hst hwp)
        have hi1 : (k : Int) < (x.length : Int) := by omega
        have z2 := hz.alloc (.cells #[.int .i64 (s.val : Int), .int .i64 (t.val : Int)] 100)
        have x2 := hx.alloc (.cells #[.int .i64 (s.val : Int), .int .i64 (t.val : Int)] 100)
        have B2 := hB.alloc hB.size (.cells #[.int .i64 (s.val : Int), .int .i64 (t.val : Int)] 100)
        have p0 := z2.cell0
        have p1 := z2.cell1
        have p2 := z2.cell2
        have p3 := z2.cell3
        have p4 := z2.cell4
        rw [hZl] at p0
        have HQ := Lib.hid (And.intro trivial (And.intro hlen (And.intro hN2 (And.intro hX (And.intro hs2 (And.intro h4 (And.intro hxl (And.intro hbl (And.intro hN (And.intro hk (And.intro hlt (And.intro z2.lt h1))))))))))))
        clear hst hwp hisr hZ hp hz hx hB hlen hN2 hX hs2 h4 hxl hbl hN hk hlt h1
        gi_wp2_with fail
        refine ⟨trivial, ?_⟩
        refine (CallsIn.inRound l (callsIn_wide.2 (HST.out.2 _))).mono ?_
        rintro e w3 ⟨rfl, hb⟩
        have z3 := z2.below hb z2.lt
        have x3 := x2.below hb x2.lt
        have B3 := B2.trans (hb.mono B2.size)
        clear z2 x2 B2 hb p0 p1 p2 p3 p4 c0 c1
        obtain ⟨Y, hY⟩ : ∃ Y, rectTo Z (s.val : Int) (t.val : Int) xs.length = Y := ⟨_, rfl⟩
        rw [hY] at HST ⊢
        have q0 := z3.cell0
        have q1 := z3.cell1
        have q2 := z3.cell2
        have q3 := z3.cell3
        have q4 := z3.cell4
        have f0 := z3.free 0
        have f1 := z3.free 1
        have f2 := z3.free 2
        have f3 := z3.free 3
        have f4 := z3.free 4
        have HPT := Lib.hid (z3.put Y)
        have hxne : w.heap.size ≠ W.heap.size := by have := HQ.out.2.2.2.2.2.2.1; omega
        have bb := fun (V : World) (i : Nat) (v : Value) (h : Below W.heap.size W V) => h.setCell (p := ⟨W.heap.size, i, none⟩) (Nat.le_refl _) v
        have rr := fun (V : World) (i : Nat) (v : Value) (h : RelAt V w.heap.size xs) => h.other (p := ⟨W.heap.size, i, none⟩) hxne v
        have HBB := Lib.hid (And.intro bb (And.intro rr (And.intro B3 x3)))
        clear bb rr B3 x3 z3 hY
        have hl1 := HQ.out.2.1
        have hl2 := HQ.out.2.2.2.2.2.2.2.2.2.2.1
        gi_wp2
        go_roundw
        case rel =>
          exact ⟨k + 1, HQ.out.2.2.2.2.2.2.2.2.2.2.1, by go_num, by rw [HST.out.1]; exact HPT.out, HBB.out.2.1 _ _ _ (HBB.out.2.1 _ _ _ (HBB.out.2.1 _ _ _ (HBB.out.2.1 _ _ _ (HBB.out.2.1 _ _ _ HBB.out.2.2.2)))), HBB.out.1 _ _ _ (HBB.out.1 _ _ _ (HBB.out.1 _ _ _ (HBB.out.1 _ _ _ (HBB.out.1 _ _ _ HBB.out.2.2.1))))⟩
        case measure => simp [intOf]; omega
      · obtain rfl : k = x.length := by omega
        rw [List.take_length] at hZ
        have RZ : Rl xs.length Z := hZ ▸ union_rl h1 h4 hisr
        have hE : ∀ s, decide (Z = xs) = s → ∀ w, Sem.run Try.prog (Op.equalIn 9999 48 (.agg #[.int .i64 (rowAt Z 0), .int .i64 (rowAt Z 1), .int .i64 (rowAt Z 2), .int .i64 (rowAt Z 3)]) (.agg #[.int .i64 (rowAt xs 0), .int .i64 (rowAt xs 1), .int .i64 (rowAt xs 2), .int .i64 (rowAt xs 3)])) w = .ok s w :=
          fun s hs w => (eqRowsD 9997 (rowAt Z 0) (rowAt Z 1) (rowAt Z 2) (rowAt Z 3) (rowAt xs 0) (rowAt xs 1) (rowAt xs 2) (rowAt xs 3) w).trans (by rw [rows_eq RZ H.out.1, hs])
        have en : ((xs.length : Int) == (xs.length : Int)) = true := by simp
        have p0 := hz.cell0
        rw [hZl] at p0
        have p1 := hz.cell1
        have p2 := hz.cell2
        have p3 := hz.cell3
        have p4 := hz.cell4
        have q0 := hx.cell0
        have q1 := hx.cell1
        have q2 := hx.cell2
        have q3 := hx.cell3
        have q4 := hx.cell4
        have hi1 : ¬ (x.length : Int) < (x.length : Int) := by omega
        have cX : Boxed wr (w.heap.size + 1) 4 (.bool false) := (hB.block _ hbl).trans HX.out.2.1
        have cX0 := cX.cell
        have fX0 := cX.frozen
        have HZ := Lib.hid (And.intro hZ (And.intro hB (And.intro hx cX)))
        cases hs : decide (Z = xs) with
        | false =>
          have hE2 := hE false hs
          have HN := Lib.hid (of_decide_eq_false hs)
          have HQ := Lib.hid (And.intro trivial (And.intro hlen (And.intro hN2 (And.intro hX (And.intro hs2 (And.intro h4 (And.intro hxl (And.intro hbl (And.intro hN h1)))))))))
          clear hE hs hZ hz hx hB RZ cX hlen hN2 hX hs2 h4 hxl hbl hN h1
          gi_wp2
          refine ⟨KeepX.below HZ.out.2.1, keepsFrom_below HZ.out.2.1, HZ.out.2.2.1, HZ.out.2.2.2, fun y hy => ?_, HX.out.2.2.2.1.trans (HZ.out.2.1.mono (Nat.le_of_lt HQ.out.2.2.2.2.2.2.1))⟩
          rcases hy with hy | rfl
          · exact HX.out.2.2.1 y hy
          · rw [HZ.out.1]
            exact HN.out
        | true =>
          have hE2 := hE true hs
          have HN := Lib.hid (of_decide_eq_true hs)
          have HQ := Lib.hid (And.intro trivial (And.intro hlen (And.intro hN2 (And.intro hX (And.intro hs2 (And.intro h4 (And.intro hxl (And.intro hbl (And.intro hN h1)))))))))
          clear hE hs hZ hz hx hB RZ cX hlen hN2 hX hs2 h4 hxl hbl hN h1
          gi_wp2
          refine ⟨(KeepX.below HZ.out.2.1).trans (keepX_set _ _ _ _), (keepsFrom_below HZ.out.2.1).trans ((KeepsOthers.setCell _ _ _).from _), HZ.out.2.2.2.set _, HX.out.2.2.2.2.2.1 (by rw [HZ.out.1]; exact HN.out), (HX.out.2.2.2.1.trans (HZ.out.2.1.mono (Nat.le_of_lt HQ.out.2.2.2.2.2.2.1))).setCell (p := ⟨w.heap.size + 1, 0, none⟩) (by show w.heap.size ≤ w.heap.size + 1; omega) _⟩
  case done =>
    rintro D W hD ⟨hx, hb, hno, hB⟩ hK
    have cX0 := hb.cell
    have fX0 := hb.frozen
    have HB := Lib.hid (And.intro hno (And.intro hB hb))
    clear hx hb hno hB x2 c2 r2 s2 B2 f2
    gi_wp2
    have hK5 := (KeepsOthers.setCell W ⟨w.heap.size + 1, 0, none⟩ (.bool false)).same D _ hK rfl
    refine ⟨by simp, .inl ⟨_, _, rfl, run_takeDeferred hK5, ?_⟩⟩
    have hb6 : Boxed ((W.setCell ⟨w.heap.size + 1, 0, none⟩ (.bool false)).putObj D (.deferred none)) (w.heap.size + 1) 4 (.bool false) := (World.putObj_heap_other (by omega)).trans (HB.out.2.2.set _)
    have c0 := hb6.cell
    exact ⟨.bool false, by simp [results, Try.results85, go_sem, c0], false, rfl, ⟨fun h => Bool.noConfusion h, fun ⟨x, hx, hu⟩ => absurd hu (HB.out.1 x hx)⟩, (HB.out.2.1.setCell (p := ⟨w.heap.size + 1, 0, none⟩) (by show w.heap.size ≤ w.heap.size + 1; omega) _).trans (below_put _ (by omega))⟩
  case stop =>
    rintro D c p W hD ⟨rfl, hb, hpc, hB⟩ hK
    have HB := Lib.hid (And.intro hpc (And.intro hB hb))
    clear hb hpc hB x2 c2 r2 s2 B2 f2
    gi_wp2
    refine ⟨by simp, .inl ⟨_, _, rfl, run_takeDeferred hK, ?_⟩⟩
    have hb6 : Boxed (W.putObj D (.deferred none)) (w.heap.size + 1) 4 (.bool true) := (World.putObj_heap_other (by omega)).trans HB.out.2.2
    have c0 := hb6.cell
    exact ⟨.bool true, by simp [results, Try.results85, go_sem, c0], true, rfl, ⟨fun _ => HB.out.1, fun _ => rfl⟩, HB.out.2.1.trans (below_put _ (by omega))⟩
end Go.Proofs.Ytpbkgdohfnjjpab
