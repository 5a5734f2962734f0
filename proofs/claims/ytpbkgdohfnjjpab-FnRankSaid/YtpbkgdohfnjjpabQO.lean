/-
  The choices as a range over them asks for them: the program's triedCovers, its sequence, and the range's law for it.
-/
import Derived.Test.YtpbkgdohfnjjpabQN
import Derived.Laws.CopyRow
import Derived.Laws.EntriesVeiled
namespace Go.Proofs.Ytpbkgdohfnjjpab
open Go.RowKit Go.Shelf
attribute [local go_sem] Oper.semAt_some

/-- the closure, whatever is left -/
theorem choose_any {l X B0 Bs By Bp Bg P N size : Nat} {cs : List (List (Int × Int))} {J Jx : List (List (Int × Int)) → World → Prop} {F : List (Int × Int)}
    (hJ : ∀ p A B, J p A → Below B0 A B → J p B) (hY : YieldsC l X B0 cs J Jx) (hX : X < B0) (hP : B0 ≤ P) (hN : F.length = N) (hN2 : N ≤ 1000) (hO : Off Bs By Bp Bg P X) : ∀ m, ChoosesP l X B0 Bs By Bp Bg P N size F cs J Jx m
  | 0 => by
    intro L px nx W pre hl hs hnx hc hp hj hw
    obtain ⟨rest, hr⟩ := hw
    have hs2 : px.length = size := by omega
    rw [show gC F 0 px nx = [px] from rfl] at hr ⊢
    have := choose_leaf (nx := nx) hJ hY hX hP hN hl hs2 W pre hc hp hj ⟨rest, by rw [hr]; simp⟩
    rw [hs2]
    exact this
  | m + 1 => choose_step hJ hX hP hN hN2 hO (choose_any hJ hY hX hP hN hN2 hO m)

section
variable {P : Program}
/-- copy of all elements of two cells each -/
theorem run_copy2 (w : World) (dT sT ty elem : TypeId) (g n dCap : Nat) (a : Addr) (sCap : Nat) (cur : Array Value) (t : TypeId) (cs : List Value)
    (hu : P.underlying dT = some (.slice elem)) (hs : (P.info? elem).map (·.size) = some 2) (hg : w.heap[g]? = some (.cells cur t (0, 0))) (hn : cs.length = n * 2) (hc : cur.size = n * 2)
    (hsrc : ∀ j v, cs[j]? = some v → w.cell? (a.add j) = some v) (h1 : ∀ v ∈ cs, v.oneCell' = true) :
    (Builtin.copy_ #[dT, sT] ty #[.slice (some ⟨g, 0, none⟩) n dCap, .slice (some a) n sCap]).run P w = .ok (goInt n) (w.setRow g cs.toArray) := by
  have hl := run_loadCells_list (P := P) w a cs hsrc
  have hst := run_storeCells_at P g 0 t cs 0 cur w hg (by omega) h1
  have hd : cur.toList.drop cs.length = [] := List.drop_eq_nil_of_le (by rw [Array.length_toList]; omega)
  simp only [Nat.add_zero, Nat.zero_add, List.take_zero, List.nil_append, hd, List.append_nil] at hst
  cases hq : P.info? elem with
  | none => simp [hq] at hs
  | some i =>
    have hi : i.size = 2 := by simpa [hq] using hs
    simp [Builtin.copy_, run_underlying hu, Builtin.lenOf, Builtin.firstCells, sizeOf, typeInfo, hq, hi, ← hn, hl, hst]
theorem wpList_copy2 {w : World} {ops : Array Oper} {rest : List Oper} {o : Oper} {a : Act} {Q : Exit → Act → World → Prop} (hgd : o.guard = none) (d s : Operand) (dT sT : TypeId)
    (ho : o.op = .call { callee := .builtin .copy, args := #[d, s], argTypes := #[dT, sT] }) (elem : TypeId) (hu : P.underlying dT = some (.slice elem)) (hsz : (P.info? elem).map (·.size) = some 2)
    (g n dCap : Nat) (ad : Addr) (sCap : Nat) (hd : a.eval d = .slice (some ⟨g, 0, none⟩) n dCap) (hs : a.eval s = .slice (some ad) n sCap)
    (cur : Array Value) (t : TypeId) (hg : w.heap[g]? = some (.cells cur t (0, 0))) (cs : List Value) (hn : cs.length = n * 2) (hc : cur.size = n * 2)
    (hsrc : ∀ j v, cs[j]? = some v → w.cell? (ad.add j) = some v) (h1 : ∀ v ∈ cs, v.oneCell' = true)
    (h : ∀ w', w'.heap[g]? = some (.cells cs.toArray t (0, 0)) → (∀ b, b ≠ g → w'.heap[b]? = w.heap[b]?) → w'.heap.size = w.heap.size → (∀ B, B ≤ g → Below B w w') → wpList P ops Q rest (a.put o.dst (goInt n)) w') : wpList P ops Q (o :: rest) a w := by
  refine wpList_plain hgd fun K hK => ?_
  have hrun := run_copy2 (P := P) w dT sT o.type elem g n dCap ad sCap cur t cs hu hsz hg hn hc hsrc h1
  unfold Oper.wp
  simp [execOp, ho, resolve, invoke, builtin, hd, hs, hrun, Result.andThen]
  exact hK _ _ (h _ (setRow_heap w g cur _ t _ hg) (fun b hb => setRow_other w g b _ hb) (by simp [World.setRow]) (fun B hB => ⟨rfl, rfl, rfl, by simp [World.setRow], fun k hk => setRow_other w g k _ (by omega)⟩))
end

theorem pairC_cell {W : World} {R : Nat} {F : List (Int × Int)} (h : PrRd W (some ⟨R, 0, none⟩) F) : ∀ j v, (pairC F)[j]? = some v → W.cell? ((⟨R, 0, none⟩ : Addr).add j) = some v := by
  intro j v hv
  have hadd : (⟨R, 0, none⟩ : Addr).add j = ⟨R, j, none⟩ := by unfold Addr.add; split <;> simp_all
  rw [hadd]
  have hlt : j < F.length * 2 := by
    have := (List.getElem?_eq_some_iff.1 hv).1
    rw [pairC_len] at this
    exact this
  obtain ⟨p, hp⟩ : ∃ p, F[j / 2]? = some p := ⟨_, List.getElem?_eq_getElem (by omega)⟩
  obtain ⟨a, b⟩ := pairC_at F (j / 2) p hp
  obtain ⟨q, hq, _, c0, c1⟩ := h (j / 2) p hp
  cases hq
  rcases (by omega : j = j / 2 * 2 ∨ j = j / 2 * 2 + 1) with e | e
  · rw [e] at hv ⊢
    rw [a] at hv
    cases hv
    exact c0
  · rw [e] at hv ⊢
    rw [b] at hv
    cases hv
    exact c1
theorem pairC_one (F : List (Int × Int)) : ∀ v ∈ pairC F, v.oneCell' = true := by
  induction F with
  | nil => intro v hv; cases hv
  | cons p r ih =>
    intro v hv
    rcases List.mem_cons.1 hv with rfl | hv
    · rfl
    · rcases List.mem_cons.1 hv with rfl | hv
      · rfl
      · exact ih v hv

set_option maxRecDepth 100000 in
set_option maxHeartbeats 4000000 in
/-- the sequence, called with a range's yield -/
theorem tried1_any {l X Br Bs R cap size : Nat} {F : List (Int × Int)} {cs : List (List (Int × Int))} {J Jx : List (List (Int × Int)) → World → Prop} (W : World)
    (hJ : ∀ p A B, J p A → Below W.heap.size A B → J p B) (hY : YieldsC l X W.heap.size cs J Jx) (hX : X < W.heap.size) (hBX : Bs ≠ X)
    (hr : Boxed W Br 91 (.slice (some ⟨R, 0, none⟩) F.length cap)) (hs : Boxed W Bs 3 (.int .i64 size)) (hF : PrRd W (some ⟨R, 0, none⟩) F) (hN2 : F.length ≤ 1000)
    (hcs : cs = gC F size [] 0) (hp : J [] W) :
    Calls Try.prog 100 #[.func (.yield l) #[] #[], .pointer (some ⟨Br, 0, none⟩), .pointer (some ⟨Bs, 0, none⟩)] W fun e W' => (∃ v, e = .returned v) ∧ (J cs W' ∨ ∃ p, Jx p W') := by
  obtain ⟨i0, hi, hz0, hz1, hz2⟩ := info_parts Try.infoP100
  have hmf : ∀ (fn : Fn) (first cap : Array Value) (w : World), Sem.run Try.prog (Instr.makeFunc fn first cap) w = .ok (.func fn first cap) w := fun _ _ _ _ => rfl
  have hcf := cf_choose
  have hbl := hs.lt
  have hrl := hr.lt
  obtain ⟨N, hN⟩ : ∃ N, F.length = N := ⟨_, rfl⟩
  have H := Lib.hid (fun (W2 : World) (P Bp Bg : Nat) (hO : Off Bs W.heap.size Bp Bg P X) (hP : W.heap.size ≤ P) (hc : CtxC W2 Bs W.heap.size Bp Bg l P size N) (hpl : PlcAt W2 P F) (hB : Below W.heap.size W W2) =>
    choose_any (size := size) (F := F) hJ hY hX hP hN (by omega) hO size F [] 0 W2 [] ⟨rfl, rfl, fun _ _ => rfl, Nat.le_refl _, Nat.zero_le _⟩ (by simp) (Nat.zero_le _) hc hpl (hJ _ _ _ hp hB) ⟨[], by rw [hcs]; simp⟩)
  have y0 := Boxed.new W 109 (.func (.yield l) #[] #[])
  have B0 := below_one W (.cells #[.func (.yield l) #[] #[]] 109)
  have r0 := (hr.alloc (.cells #[.func (.yield l) #[] #[]] 109)).cell
  have HF := Lib.hid (And.intro hF (And.intro hs (And.intro hr hcs)))
  rw [hN] at r0
  have hN3 : N ≤ 1000 := by omega
  clear hJ hY hp hF hs hr hcs
  go_enter Try.func100, Try.ntmps100
  go_wp2_with (at_make; refine wpList_make_full _ rfl _ _ 91 rfl (W.heap.size + 1) 100 i0 (.agg #[.int .i64 0, .int .i64 0]) 2 Try.underlying91 hi hz0 hz1 _ _ _ _ N rfl rfl rfl rfl ?c1 ?c2 ?c3 ?_)
  case c1 => rw [hz2]; omega
  case c2 => unfold maxLen; omega
  case c3 => simp
  intro w1 hown hgrow
  have BB : Below (W.heap.size + 1) (W.alloc (.cells #[.func (.yield l) #[] #[]] 109)) w1 := (Below.refl _ _).grown hgrow (by simp) (by simp)
  have hs1 : W.heap.size + 1 < w1.heap.size := (hown.lt _ rfl).2
  rcases hown.2 with ⟨hbad, _⟩ | ⟨g, cap', cur, he, _, hg, _, _, hcs, _⟩
  · cases hbad
  obtain ⟨rfl, rfl⟩ : W.heap.size + 1 = g ∧ N = cap' := by
    simp only [Value.slice.injEq, Option.some.injEq, Addr.mk.injEq, and_true] at he
    exact ⟨he.1, he.2.2⟩
  have r1 := (BB.cell (p := ⟨Br, 0, none⟩) (by show Br < W.heap.size + 1; omega)).trans r0
  have BA := BB.alloc (by omega) (.cells #[ppV (W.heap.size + 1) N] 91)
  have p0 := Boxed.new w1 91 (ppV (W.heap.size + 1) N)
  have hg1 : (w1.alloc (.cells #[ppV (W.heap.size + 1) N] 91)).heap[W.heap.size + 1]? = some (.cells cur 100 (0, 0)) := (Below.heap_alloc w1 _ _ hs1).trans hg
  have r2 : (w1.alloc (.cells #[ppV (W.heap.size + 1) N] 91)).cell? ⟨Br, 0, none⟩ = some (.slice (some ⟨R, 0, none⟩) N cap) := (World.cell?_of_block (Below.heap_alloc w1 _ _ (by show Br < w1.heap.size; omega))).trans r1
  have hsrc := pairC_cell ((HF.out.1.below B0).below (w' := w1.alloc (.cells #[ppV (W.heap.size + 1) N] 91)) (by rw [World.size_alloc]; exact BA))
  have HC := Lib.hid (And.intro hg1 (And.intro hsrc (And.intro BA p0)))
  have hlenF : (pairC F).length = N * 2 := by rw [pairC_len, hN]
  have hsz2 : (Try.prog.info? 100).map (·.size) = some 2 := by rw [hi]; simp [hz1]
  have HL := Lib.hid (And.intro hlenF (And.intro hsz2 hcs))
  clear hown hgrow hg hg1 hsrc BA BB r0 r1 p0 hlenF hsz2 hcs he
  go_wp2_with (refine wpList_copy2 (o := ⟨some 11, _, _, _, _, _⟩) rfl (.tmp 9) (.tmp 10) 91 91 rfl 100 Try.underlying91 HL.out.2.1 (W.heap.size + 1) N N ⟨R, 0, none⟩ cap (by rfl) (by rfl) cur 100 HC.out.1 (pairC F) HL.out.1 HL.out.2.2 HC.out.2.1 (pairC_one F) ?_)
  intro w2 hg2 hoth hsz hbel
  have p2 : Boxed w2 w1.heap.size 91 (ppV (W.heap.size + 1) N) := (hoth _ (by omega)).trans HC.out.2.2.2
  have BC := HC.out.2.2.1.trans (hbel (W.heap.size + 1) (Nat.le_refl _))
  have p3 := Boxed.alloc p2 (.cells #[.func (.func 101) #[] #[.pointer (some ⟨Bs, 0, none⟩), .pointer (some ⟨W.heap.size, 0, none⟩), .pointer (some ⟨w1.heap.size, 0, none⟩), .pointer (some ⟨w2.heap.size, 0, none⟩)]] 68)
  have g3 := Boxed.new w2 68 (.func (.func 101) #[] #[.pointer (some ⟨Bs, 0, none⟩), .pointer (some ⟨W.heap.size, 0, none⟩), .pointer (some ⟨w1.heap.size, 0, none⟩), .pointer (some ⟨w2.heap.size, 0, none⟩)])
  have BD := BC.alloc (by omega) (.cells #[.func (.func 101) #[] #[.pointer (some ⟨Bs, 0, none⟩), .pointer (some ⟨W.heap.size, 0, none⟩), .pointer (some ⟨w1.heap.size, 0, none⟩), .pointer (some ⟨w2.heap.size, 0, none⟩)]] 68)
  have BE := B0.trans (BD.mono (by omega))
  have y3 := (BD.block W.heap.size (by omega)).trans y0
  have s3 := (BE.block Bs hbl).trans HF.out.2.1
  have pl3 : PlcAt (w2.alloc (.cells #[.func (.func 101) #[] #[.pointer (some ⟨Bs, 0, none⟩), .pointer (some ⟨W.heap.size, 0, none⟩), .pointer (some ⟨w1.heap.size, 0, none⟩), .pointer (some ⟨w2.heap.size, 0, none⟩)]] 68)) (W.heap.size + 1) F := (Below.heap_alloc w2 _ _ (by omega)).trans hg2
  have call := H.out _ (W.heap.size + 1) w1.heap.size w2.heap.size ⟨⟨hBX, by omega⟩, ⟨by omega, by omega⟩, ⟨by omega, by omega⟩, ⟨by omega, by omega⟩⟩ (by omega) ⟨s3, y3, p3, g3⟩ pl3 BE
  have qc := g3.cell
  rw [hsz] at call qc
  have HK := Lib.hid (show Calls Try.prog 101 #[.int .i64 0, .int .i64 0, .pointer (some ⟨Bs, 0, none⟩), .pointer (some ⟨W.heap.size, 0, none⟩), .pointer (some ⟨w1.heap.size, 0, none⟩), .pointer (some ⟨w1.heap.size + 1, 0, none⟩)] _ _ from call)
  clear call pl3 s3 y3 BE BD g3 p3 p2 BC hg2 hoth hbel H HC HL B0 y0 r2
  go_wp2_with fail
  refine HK.out.mono ?_
  rintro e W' ⟨b, rfl, _, ht, hf⟩
  rw [List.nil_append, ← HF.out.2.2.2] at ht
  have HB := Lib.hid (And.intro ht hf)
  clear ht hf qc HK
  go_wp2
  go_end0
  refine ⟨⟨_, rfl⟩, ?_⟩
  cases b with
  | true => exact .inl (HB.out.1 rfl).2
  | false => exact .inr (HB.out.2 rfl)
end Go.Proofs.Ytpbkgdohfnjjpab
