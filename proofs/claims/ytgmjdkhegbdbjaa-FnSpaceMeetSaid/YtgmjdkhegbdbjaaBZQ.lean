/-
  What the exact laws share beside leavers.
-/
import Derived.Test.YtgmjdkhegbdbjaaBZC
import Derived.Test.YtgmjdkhegbdbjaaSHS
import Derived.Sort.OwnSortedInts
import Derived.Lib.RowBridge
import Derived.Test.YtgmjdkhegbdbjaaED
import Derived.Test.YtgmjdkhegbdbjaaBYL
import Derived.OwnWalk
import Derived.Test.YtgmjdkhegbdbjaaT
namespace Go.Ph
open Go Go.Conc Go.ConcN Go.RowKit Go.Conc.Lib Go.ConcR.Gen Go.ConcN.Gen Go.Br Go.Proofs Go.Proofs.Ytgmjdkhegbdbjaa Go.Sort
open Go.ConcR (KK wgBlock WgAt stA smA rd wr mk Payload Aside2 DC0)
set_option linter.unusedVariables false
set_option linter.unusedSimpArgs false
set_option linter.unusedSectionVars false
set_option maxRecDepth 100000

instance payC : Payload := ⟨chT⟩

/-- What is sent, as numbers. -/
def sentI (xs : List Int) (f : Nat) : Nat → Nat → List Int
  | _, 0 => []
  | b, r + 1 => imgA xs (zOf f b) :: sentI xs f (b + 1) r
theorem sentFrom_is (xs : List Int) (f : Nat) : ∀ r b, sentFrom xs f b r = (sentI xs f b r).map (Value.int .i64)
  | 0, _ => rfl
  | r + 1, b => by simp [sentFrom, sentI, sentFrom_is xs f r (b + 1)]
def gotI (xs : List Int) (n : Nat) : List Int := 0 :: ((List.range' 0 n).map fun j => sentI xs j 0 (2 ^ (n - j - 1))).flatten
theorem gotAll_is (xs : List Int) (n : Nat) : gotAll xs n = (gotI xs n).map (Value.int .i64) := by
  simp only [gotAll, gotI, List.map_cons, List.map_flatten, List.map_map]
  congr 2
  exact List.map_congr_left fun j _ => sentFrom_is xs j _ _
def sortI (xs : List Int) : List Int := xs.mergeSort fun x y => decide (x ≤ y)
/-- The space of a relation. -/
def spaceL (xs : List Int) : List Int := Lib.compact (sortI (gotI xs xs.length))

/-- A readable list, in the world and in the emptied one. -/
def RdB (Sh : Nat → Bool) (w : World) (ao : Option Addr) (xs : List Int) : Prop := Rd w ao xs ∧ Rd (void Sh w) ao xs
theorem rd_bc {w w' : World} {ao : Option Addr} {xs : List Int} (h : Rd w ao xs) (k : BelowC w w') : Rd w' ao xs := by
  intro i x hx
  obtain ⟨b, off, h1, h2, h3⟩ := h i x hx
  have hc : IsCells w b := by
    unfold World.cell? at h3
    cases hb : w.heap[b]? with
    | none => rw [hb] at h3; cases h3
    | some o =>
      cases o with
      | cells c e f => exact ⟨c, e, f, hb⟩
      | _ => rw [hb] at h3; cases h3
  exact ⟨b, off, h1, Nat.lt_of_lt_of_le h2 k.size, (World.cell?_of_block (a := ⟨b, off + i, none⟩) (k.block b h2)).trans h3⟩
theorem RdB.bc {Sh Sh' : Nat → Bool} {w w' : World} {ao : Option Addr} {xs : List Int} (h : RdB Sh w ao xs) (k : BelowC w w') (hs : ∀ b, b < w.heap.size → Sh' b = Sh b) : RdB Sh' w' ao xs :=
  ⟨rd_bc h.1 k, rd_bc h.2 (k.void hs)⟩
theorem RdB.of {Sh : Nat → Bool} {w : World} {ao : Option Addr} {xs : List Int} (h : Rd w ao xs) (hs : ∀ b off, ao = some ⟨b, off, none⟩ → xs ≠ [] → Sh b = false) : RdB Sh w ao xs := by
  refine ⟨h, fun i x hx => ?_⟩
  obtain ⟨b, off, h1, h2, h3⟩ := h i x hx
  refine ⟨b, off, h1, by rw [void_size]; exact h2, (World.cell?_of_block (a := ⟨b, off + i, none⟩) (void_same (hs b off h1 (fun e => by subst e; simp at hx)))).trans h3⟩
theorem compact_le {zs : List Int} : (Lib.compact zs).length ≤ zs.length := Lib.compact_length_le zs
theorem grow_nil (w : World) : Go.Sort.grow w #[] = w := by simp [Go.Sort.grow]

theorem re_bc {W0 w : World} {Wg s0 sz : Nat} {v : Value} {L : List Value} (hs : W0.heap.size = s0) (h : RE W0 Wg s0 sz v L w) : BelowC W0 w :=
  ⟨h.env.1, h.env.2, by rw [hs]; exact h.hi, fun k hk => h.old k (by omega)⟩

theorem wg_chan : link.tWg ≠ relTy := by decide

/-- One row of the walk's own may have turned: what lay before the walk stands. -/
theorem bc_turned {w0 w w' : World} {τ : Tape} {g : Nat} (h : BelowC w0 w) (hg : w0.heap.size ≤ g) (k : (w.on τ 0).grownBy w' (some g)) : BelowC w0 w' :=
  ⟨k.os.trans h.os, k.output.trans h.output, Nat.le_trans h.size k.size, fun b hb => by
    have h1 := h.block b hb
    exact (k.block b (Nat.lt_of_lt_of_le hb h.size) (by simp; omega)).trans h1⟩

set_option maxHeartbeats 4000000 in
/-- Behind Wait: Sort, Compact, the return. -/
theorem spaceEnd {Sh : Nat → Bool} {w0 w : World} {Wg s0 sz g cap : Nat} {zs : List Int} {Q : (Nat → Bool) → Goroutine → World → Prop} {c0 : Frame} {cs : List Frame} {a : Act} (hs : w0.heap.size = s0) (kw : KW Try.prog link.tWg Sh w0)
    (hd : a.defers = []) (hz : a.tmps.size = 48) (e7 : a.eval (.tmp 7) = .slice (some ⟨g, 0, none⟩) zs.length cap) (hl : zs.length ≤ 1000) (hre : RE w0 Wg s0 sz (.slice (some ⟨g, 0, none⟩) zs.length cap) (zs.map (Value.int .i64)) w) (hlv : WgLive link.tWg Wg w) (hgW : g ≠ Wg)
    (hq : ∀ w', BelowC w0 w' → KW Try.prog link.tWg (fun b => Sh b || b == Wg) w' → RdB (fun b => Sh b || b == Wg) w' (some ⟨g, 0, none⟩) (Lib.compact (sortI zs)) → WB Try.prog Q (fun b => Sh b || b == Wg) ⟨c0.finish (.slice (some ⟨g, 0, none⟩) (Lib.compact (sortI zs)).length cap), cs, .running, none, none⟩ w') :
    WB Try.prog Q (fun b => Sh b || b == Wg) (G ((base 37).at a [.inRegion R20 [], .code C21]) (c0 :: cs)) w := by
  have hkn : (base 37).kind ≠ .early := base_kind _
  have same : ∀ {a : Act}, a.tmps.size = 48 → ∀ {d : Nat}, d < 48 → ∀ v, (a.put (some d) v).eval (.tmp d) = v := fun h _ hd v => eval_put_same (by rw [h]; exact hd)
  have hbc := re_bc hs hre
  have hlo := hre.lo
  obtain ⟨st, sm, hwl⟩ := hlv
  have kw1 : KW Try.prog link.tWg (fun b => Sh b || b == Wg) w := (kw.bc hbc).more (show w.heap[Wg]? = some (.cells _ link.tWg (0, 0)) from hwl)
  obtain ⟨g1, cap1, cur, hv, hbg, hgc, hnc, hcm, hcs, htk⟩ : ∃ g1 cap1 cur, Value.slice (some ⟨g, 0, none⟩) zs.length cap = .slice (some ⟨g1, 0, none⟩) (zs.map (Value.int .i64)).length cap1 ∧ s0 ≤ g1 ∧ w.heap[g1]? = some (.cells cur psT (0, 0)) ∧ (zs.map (Value.int .i64)).length ≤ cap1 ∧ cap1 ≤ maxLen ∧ cur.size = cap1 * 1 ∧ cur.toList.take ((zs.map (Value.int .i64)).length * 1) = zs.map (Value.int .i64) := by
    rcases hre.own.2 with ⟨hn, _⟩ | h
    · cases hn
    · exact h
  simp only [Value.slice.injEq, Option.some.injEq, Addr.mk.injEq, and_true, true_and] at hv
  obtain ⟨rfl, _, rfl⟩ := hv
  rw [List.length_map] at hnc
  have htk' : cur.toList.take zs.length = zs.map (Value.int .i64) := by rw [List.length_map, Nat.mul_one] at htk; exact htk
  have hglt := lt_of_heap hgc
  have hgs : ∀ b, Sh b = true → b < s0 := fun b hb => by have := kw.lt hb; omega
  have gns : (Sh g || g == Wg) = false := by
    cases h : Sh g with
    | true => have := hgs _ h; omega
    | false => simp [hgW]
  have hvoid : (void (fun b => Sh b || b == Wg) w).heap[g]? = some (.cells cur psT (0, 0)) := (void_same gns).trans hgc
  refine b_end ?_
  refine b_seq ?_
  refine b_region rfl ?_
  refine b_op 44 (.slice (some ⟨g, 0, none⟩) zs.length cap) rfl rfl rfl hkn (fun W => run_mv a _ _ _ rfl e7 W) fun a1 ea => ?_
  have e44 : a1.eval (.tmp 44) = .slice (some ⟨g, 0, none⟩) zs.length cap := ea ▸ same hz (by omega) _
  replace hd : a1.defers = [] := by rw [ea]; exact hd
  replace hz : a1.tmps.size = 48 := by rw [ea]; simpa [Act.put] using hz
  replace e7 : a1.eval (.tmp 7) = .slice (some ⟨g, 0, none⟩) zs.length cap := by rw [ea]; exact (eval_put (by omega)).trans e7
  clear ea a
  refine b_call (vs := #[.slice (some ⟨g, 0, none⟩) zs.length cap]) rfl rfl hkn rfl Try.func66 (by rfl) rfl (by rw [List.map_toArray, List.map_cons, List.map_nil, e44]) ?_
  refine callK kEnv rfl kw1 (R := fun W v w' => v = .tuple #[] ∧ ∃ n os, w' = Go.Sort.grow (putRow (Value.int .i64) (Sort.ahead W n) g 0 (sortI zs).toArray) os) ?_ ?_
  · rintro W (⟨τ, rfl⟩ | ⟨τ, rfl⟩)
    · exact (Try.sort_any g 0 cap zs _ (holds_of_blockI (w := w.on τ 0) hgc htk') hglt (by omega)).mono fun e w' ⟨h1, h2⟩ => ⟨_, h1, rfl, h2⟩
    · exact (Try.sort_any g 0 cap zs _ (holds_of_blockI (w := (void (fun b => Sh b || b == Wg) w).on τ 0) hvoid htk') (show g < (void (fun b => Sh b || b == Wg) w).heap.size by rw [void_size]; exact hglt) (by omega)).mono fun e w' ⟨h1, h2⟩ => ⟨_, h1, rfl, h2⟩
  rintro τ v w2 ⟨rfl, n, os, hw2⟩
  have hls : (sortI zs).length = zs.length := List.length_mergeSort _
  have hgr2 : (w.on τ 0).grownBy w2 (some g) := by rw [hw2]; exact grownBy_sortedI (w := w.on τ 0) (g := g) (n := n) (os := os) (sortI zs).toArray
  have hgc2 : w2.heap[g]? = some (.cells (putCells (Value.int .i64) 0 (sortI zs).toArray cur) psT (0, 0)) := by rw [hw2]; exact heap_sortedI (w := w.on τ 0) _ hgc
  have htk2 : (putCells (Value.int .i64) 0 (sortI zs).toArray cur).toList.take (sortI zs).length = (sortI zs).map (Value.int .i64) := take_putCellsI cur (sortI zs) (by rw [hls]; omega)
  have hcs2 : (putCells (Value.int .i64) 0 (sortI zs).toArray cur).size = cap := by simp [putCells]; omega
  clear hw2
  have hbc2 : BelowC w0 w2 := bc_turned hbc (by omega) hgr2
  have hwl2 : w2.heap[Wg]? = w.heap[Wg]? := hgr2.block Wg (lt_of_heap (show w.heap[Wg]? = some _ from hwl)) (by simp; exact fun e => hgW e.symm)
  have kw2 : KW Try.prog link.tWg (fun b => Sh b || b == Wg) w2 := (kw.bc hbc2).more (show w2.heap[Wg]? = some (.cells _ link.tWg (0, 0)) from hwl2.trans hwl)
  have hglt2 := lt_of_heap hgc2
  have hvoid2 : (void (fun b => Sh b || b == Wg) w2).heap[g]? = _ := (void_same gns).trans hgc2
  generalize putCells (Value.int .i64) 0 (sortI zs).toArray cur = cur2 at hgc2 htk2 hcs2 hvoid2
  clear hgr2 hgc htk htk' hcs hvoid hbc kw1 hwl os n hre e44
  refine b_back rfl rfl fun a2 ea => ?_
  replace hd : a2.defers = [] := by rw [ea]; exact hd
  replace hz : a2.tmps.size = 48 := by rw [ea]; simpa [Act.put] using hz
  replace e7 : a2.eval (.tmp 7) = .slice (some ⟨g, 0, none⟩) zs.length cap := by rw [ea]; exact (eval_put (by omega)).trans e7
  clear ea a1
  refine b_end ?_
  refine b_seq ?_
  refine b_region rfl ?_
  refine b_op 46 (.slice (some ⟨g, 0, none⟩) zs.length cap) rfl rfl rfl hkn (fun W => run_mv a2 _ _ _ rfl e7 W) fun a3 ea => ?_
  have e46 : a3.eval (.tmp 46) = .slice (some ⟨g, 0, none⟩) zs.length cap := ea ▸ same hz (by omega) _
  replace hd : a3.defers = [] := by rw [ea]; exact hd
  replace hz : a3.tmps.size = 48 := by rw [ea]; simpa [Act.put] using hz
  clear ea a2 e7
  refine b_call (vs := #[.slice (some ⟨g, 0, none⟩) (sortI zs).length cap]) rfl rfl hkn rfl Try.func67 (by rfl) rfl (by rw [List.map_toArray, List.map_cons, List.map_nil, e46, hls]) ?_
  refine callK kEnv rfl kw2 (R := fun W v w' => v = .slice (some ⟨g, 0, none⟩) (Lib.compact (sortI zs)).length cap ∧ ∃ q, w' = putRow (Value.int .i64) (Sort.ahead W q) g 0 (Lib.compact (sortI zs) ++ List.replicate ((sortI zs).length - (Lib.compact (sortI zs)).length) 0).toArray) ?_ ?_
  · rintro W (⟨τ, rfl⟩ | ⟨τ, rfl⟩)
    · exact (Try.compact_any g 0 cap (sortI zs) _ (holds_of_blockI (w := w2.on τ 0) hgc2 htk2) (by omega) (by omega)).mono fun e w' ⟨h1, h2⟩ => ⟨_, h1, rfl, h2⟩
    · exact (Try.compact_any g 0 cap (sortI zs) _ (holds_of_blockI (w := (void (fun b => Sh b || b == Wg) w2).on τ 0) hvoid2 htk2) (by omega) (by omega)).mono fun e w' ⟨h1, h2⟩ => ⟨_, h1, rfl, h2⟩
  rintro τ2 v w3 ⟨rfl, q, hw3⟩
  have hcl : (Lib.compact (sortI zs)).length ≤ (sortI zs).length := compact_le
  obtain ⟨C, hC⟩ : ∃ C, C = Lib.compact (sortI zs) := ⟨_, rfl⟩
  rw [← hC] at hw3 hcl hq ⊢
  obtain ⟨D, hD⟩ : ∃ D, D = C ++ List.replicate ((sortI zs).length - C.length) (0 : Int) := ⟨_, rfl⟩
  rw [← hD] at hw3
  have hDl : D.length = zs.length := by rw [hD, List.length_append, List.length_replicate]; omega
  rw [← grow_nil (putRow (Value.int .i64) (Sort.ahead (w2.on τ2 0) q) g 0 D.toArray)] at hw3
  have hgr3 : (w2.on τ2 0).grownBy w3 (some g) := by rw [hw3]; exact grownBy_sortedI (w := w2.on τ2 0) (g := g) (n := q) (os := #[]) D.toArray
  have hgc3 : w3.heap[g]? = some (.cells (putCells (Value.int .i64) 0 D.toArray cur2) psT (0, 0)) := by rw [hw3]; exact heap_sortedI (w := w2.on τ2 0) _ hgc2
  have htk3 : (putCells (Value.int .i64) 0 D.toArray cur2).toList.take D.length = D.map (Value.int .i64) := take_putCellsI cur2 D (by omega)
  have hrd : Rd w3 (some ⟨g, 0, none⟩) C := by
    intro k x hx
    have hk : k < C.length := (List.getElem?_eq_some_iff.1 hx).1
    refine ⟨g, 0, rfl, lt_of_heap hgc3, ?_⟩
    have h1 : (List.take D.length (putCells (Value.int .i64) 0 D.toArray cur2).toList)[k]? = (D.map (Value.int .i64))[k]? := by rw [htk3]
    rw [List.getElem?_take_of_lt (by omega), List.getElem?_map, hD, List.getElem?_append_left hk, hx] at h1
    simp only [World.cell?, hgc3, Nat.zero_add]
    simpa [hD] using h1
  have hbc3 : BelowC w0 w3 := bc_turned hbc2 (by omega) hgr3
  have hwl3 : w3.heap[Wg]? = w2.heap[Wg]? := hgr3.block Wg (by have := kw2.lt (b := Wg) (by simp); exact this) (by simp; exact fun e => hgW e.symm)
  have kw3 : KW Try.prog link.tWg (fun b => Sh b || b == Wg) w3 := by
    obtain ⟨c, f, hc⟩ := kw2.sh Wg (by simp)
    exact (kw.bc hbc3).more (hwl3.trans hc)
  clear hw3
  refine b_back rfl rfl fun a4 ea => ?_
  have e47 : a4.eval (.tmp 47) = .slice (some ⟨g, 0, none⟩) C.length cap := ea ▸ same hz (by omega) _
  replace hd : a4.defers = [] := by rw [ea]; exact hd
  replace hz : a4.tmps.size = 48 := by rw [ea]; simpa [Act.put] using hz
  clear ea a3 e46
  refine b_op 2 (.slice (some ⟨g, 0, none⟩) C.length cap) rfl rfl rfl hkn (fun W => run_asg a4 _ (.tmp 47) _ rfl e47 W) fun a5 ea => ?_
  have e2 : a5.eval (.tmp 2) = .slice (some ⟨g, 0, none⟩) C.length cap := ea ▸ same hz (by omega) _
  replace hd : a5.defers = [] := by rw [ea]; exact hd
  clear ea a4 e47 hz
  refine b_end ?_
  refine b_ret ?_
  refine b_leave (v := .slice (some ⟨g, 0, none⟩) C.length cap) rfl hd Try.func37 (fun W => ?_) (fun W es => events_results_tmp (t := 2) rfl _ _) (hq w3 hbc3 kw3 (RdB.of hrd fun b off hb _ => ?_))
  · rw [results_tmp (t := 2) rfl]
    exact congrArg (fun v => Result.ok v W) e2
  · simp only [Option.some.injEq, Addr.mk.injEq] at hb
    rw [← hb.1]; exact gns
end Go.Ph

namespace Go.Ph
open Go Go.Conc Go.ConcN Go.RowKit Go.Conc.Lib Go.ConcR.Gen Go.ConcN.Gen Go.Br Go.Proofs Go.Proofs.Ytgmjdkhegbdbjaa Go.Sort
open Go.ConcR (KK wgBlock WgAt stA smA rd wr mk Payload Aside2 DC0)
set_option linter.unusedVariables false
set_option linter.unusedSimpArgs false
set_option linter.unusedSectionVars false
set_option maxRecDepth 100000

theorem valsAt_ne {xs : List Int} {n i : Nat} : valsAt xs n i ≠ [] := by
  intro h
  have := congrArg List.length h
  simp only [valsAt, sentFrom_length, List.length_nil] at this
  have := Nat.one_le_two_pow (n := n - i - 1)
  omega
theorem valsAt_len {xs : List Int} {n i : Nat} (h : n ≤ 4) (hi : i < n) : 20 * (valsAt xs n i).length + 20 ≤ 200 := by
  simp only [valsAt, sentFrom_length]
  have : n - i - 1 ≤ 3 := by omega
  have := Nat.pow_le_pow_right (n := 2) (by omega) this
  omega
theorem gotI_len {xs : List Int} {n : Nat} (h : n ≤ 4) : (gotI xs n).length ≤ 1000 := by
  have := gotAll_length (xs := xs) h
  rw [gotAll_is, List.length_map] at this
  exact this

theorem enter_act (m : Nat) (v : Value) : ∃ a0 : Act, a0 = { tmps := #[v] ++ Array.replicate m undef, defers := [] } ∧ a0.tmps.size = m + 1 ∧ a0.defers = [] ∧ a0.eval (.tmp 0) = v := by
  refine ⟨_, rfl, ?_, rfl, ?_⟩
  · simp; omega
  · simp only [Act.eval, Array.getD_eq_getD_getElem?]
    rw [Array.getElem?_append_left (by simp)]
    rfl

set_option maxHeartbeats 400000 in
/-- ████ space beside leavers. ████ -/
theorem spaceB {Sh : Nat → Bool} {w0 : World} {xs : List Int} {Q : (Nat → Bool) → Goroutine → World → Prop} {c0 : Frame} {cs : List Frame} (kw : KW Try.prog link.tWg Sh w0) (h1 : 1 ≤ xs.length) (h4 : xs.length ≤ 4)
    (hq : ∀ Wg g cap w', w0.heap.size ≤ Wg → BelowC w0 w' → KW Try.prog link.tWg (fun b => Sh b || b == Wg) w' → RdB (fun b => Sh b || b == Wg) w' (some ⟨g, 0, none⟩) (spaceL xs) → WB Try.prog Q (fun b => Sh b || b == Wg) ⟨c0.finish (.slice (some ⟨g, 0, none⟩) (spaceL xs).length cap), cs, .running, none, none⟩ w') :
    WB Try.prog Q Sh (gor (Frame.enter Try.prog 37 #[relOf xs] .normal) [] (c0 :: cs)) w0 := by
  obtain ⟨s0, hs0⟩ : ∃ s0, w0.heap.size = s0 := ⟨_, rfl⟩
  obtain ⟨n, hn⟩ : ∃ n, xs.length = n := ⟨_, rfl⟩
  rw [hn] at h1 h4
  rw [enter_at _ Try.func37 (c := body37) rfl]
  have hm : Try.f37.ntmps - (#[relOf xs] : Array Value).size = 47 := by rw [Try.ntmps37]; rfl
  rw [hm]
  obtain ⟨a0, ha0, z0, d0, e0⟩ := enter_act 47 (relOf xs)
  rw [← ha0]
  clear ha0 hm
  have hsh : ∀ b, Sh b = true → b < s0 ∧ ¬ IsTy relTy w0 b := fun b hb => by
    refine ⟨by have := kw.lt hb; omega, ?_⟩
    rintro ⟨c, f, hc⟩
    obtain ⟨c', f', hc'⟩ := kw.sh b hb
    rw [hc] at hc'
    simp only [Option.some.injEq, Obj.cells.injEq] at hc'
    exact wg_chan hc'.2.1.symm
  have hpre : ∀ (τ : Tape) (d : Nat), ∃ k, Goes Try.prog true AtRel (DpL Sh (s0 + 2)) (Ready Try.prog link.tWg (s0 + 2) relTy Sh (.int .i64 0) (AnS w0 (s0 + 1) (s0 + 2) s0 n (gotAll xs n) (c0 :: cs)) (valsAt xs n) n) k (G ((base 37).at a0 [.code body37]) (c0 :: cs)) (w0.on τ d) := by
    intro τ d
    refine ⟨0 + 25, ?_⟩
    have hst := spaceStart (An := AnS w0 (s0 + 1) (s0 + 2) s0 n (gotAll xs n) (c0 :: cs)) (z := .int .i64 0) (w0 := w0) (cs := c0 :: cs) (Sh := Sh) rfl wg_chan hn h1 h4 hs0 hsh (fun ks a w hk hp hs hw => emptied h1 h4 hk hp hs hw)
    exact hst a0 (w0.on τ d) d0 z0 e0 ⟨hs0, fun _ _ => rfl, rfl, rfl⟩
  have hD : ∀ w w' es, DpL Sh (s0 + 2) w w' es → ∀ e ∈ es, EvL (ShunOf Sh) (s0 + 2) e := fun w w' es h => h
  have hB : w0.heap.size ≤ s0 + 2 := by omega
  refine phase (P := Try.prog) (ty := link.tWg) (Wg := s0 + 2) (rel := relTy) (z := .int .i64 0) (An := AnS w0 (s0 + 1) (s0 + 2) s0 n (gotAll xs n) (c0 :: cs)) (Fin := FinS w0 (s0 + 1) (s0 + 2) s0 n (gotAll xs n) (c0 :: cs)) (V := valsAt xs n) (n := n) (W := 200)
    wg_chan (by omega) (by omega) (fun i _ => valsAt_ne) (fun i hi => valsAt_len h4 hi) anS_run anS_round hD hB hpre ?_
  · rintro g' w' ⟨sz, v, a, hp, hre, hlive, hgo⟩
    have hgI := gotAll_is xs n
    refine WB.goes (D := DC0) (S := fun g₂ w₃ => g₂ = G ((base 37).at (a.put (some 43) (.tuple #[])) [.inRegion R20 [], .code C21]) (c0 :: cs) ∧ RE w0 (s0 + 2) s0 sz v (gotAll xs n) w₃ ∧ WgLive link.tWg (s0 + 2) w₃) (fun w1 w2 es h e he => by rw [h.2] at he; simp at he) (fun τ d => hgo (w'.on τ d) ⟨hre.own, hre.nn, hre.lo, hre.hi, hre.size, hre.old, hre.env⟩ hlive) ?_
    rintro g₂ w₃ ⟨rfl, hre3, hl3⟩
    refine ⟨by rw [hre.size, hre3.size]; exact Nat.le_refl _, ?_⟩
    obtain ⟨g, cap, rfl, hgW⟩ := hre3.nn
    rw [hgI, List.length_map] at hp
    have hp2 := hp.put (d := 43) (by omega) (.tuple #[])
    rw [hgI, List.length_map] at hre3
    refine spaceEnd (s0 := s0) hs0 kw hp2.ds hp2.sz hp2.s7 (gotI_len h4) hre3 hl3 hgW fun w4 h5 h6 h7 => ?_
    have hsl : Lib.compact (sortI (gotI xs n)) = spaceL xs := by rw [← hn]; rfl
    rw [hsl] at h7 ⊢
    exact hq (s0 + 2) g cap w4 (by omega) h5 h6 h7
#print axioms spaceB
end Go.Ph

namespace Go.Proofs.Ytgmjdkhegbdbjaa
open Go.RowKit

def sentIs (xs : List Int) (f : Nat) : Nat → Nat → List Int
  | _, 0 => []
  | b, r + 1 => imgA xs (Go.Ph.zOf f b) :: sentIs xs f (b + 1) r
theorem mem_sentIs (xs : List Int) (f : Nat) (x : Int) : ∀ r b, x ∈ sentIs xs f b r ↔ ∃ i, i < r ∧ x = imgA xs (Go.Ph.zOf f (b + i))
  | 0, b => by simp [sentIs]
  | r + 1, b => by
    simp only [sentIs, List.mem_cons, mem_sentIs xs f x r (b + 1)]
    constructor
    · rintro (h | ⟨i, h1, h2⟩)
      · exact ⟨0, by omega, by simpa using h⟩
      · exact ⟨i + 1, by omega, by rw [h2, show b + 1 + i = b + (i + 1) by omega]⟩
    · rintro ⟨i, h1, h2⟩
      cases i with
      | zero => exact .inl (by simpa using h2)
      | succ i => exact .inr ⟨i, by omega, by rw [h2, show b + 1 + i = b + (i + 1) by omega]⟩
def gotIs (xs : List Int) (n : Nat) : List Int := 0 :: ((List.range' 0 n).map fun j => sentIs xs j 0 (2 ^ (n - j - 1))).flatten
def madeB (xs : List Int) (s : Nat) : Bool := (List.range (2 ^ xs.length)).any fun (z : Nat) => imgA xs (z : Int) == (s : Int)
def spL (xs : List Int) : List Int := ((List.range (2 ^ xs.length)).filter (madeB xs)).map fun (s : Nat) => (s : Int)

theorem zOf_all : ∀ n : Fin 5, ∀ z : Fin 16, z.val < 2 ^ n.val → z.val = 0 ∨ ∃ f : Fin 4, f.val < n.val ∧ ∃ b : Fin 8, b.val < 2 ^ (n.val - f.val - 1) ∧ Go.Ph.zOf f.val b.val = (z.val : Int) := by decide +kernel
theorem zOf_in : ∀ n : Fin 5, ∀ f : Fin 4, f.val < n.val → ∀ b : Fin 8, b.val < 2 ^ (n.val - f.val - 1) → ∃ z : Fin 16, z.val < 2 ^ n.val ∧ Go.Ph.zOf f.val b.val = (z.val : Int) := by decide +kernel
theorem img_zero {xs : List Int} (h : Rl xs.length xs) : imgA xs 0 = 0 := by
  refine St.ext h.four (St.img h (St.zero _)) (St.zero _) fun j hj => ?_
  have h4 := h.four
  rw [has_no j (by omega), Bool.eq_false_iff]
  intro hh
  obtain ⟨l, hl, h2, _⟩ := (has_img h (St.zero _) j hj).1 hh
  rw [has_no l (by omega)] at h2
  cases h2
theorem mem_gotIs {xs : List Int} (h : Rl xs.length xs) (x : Int) : x ∈ gotIs xs xs.length ↔ ∃ z : Nat, z < 2 ^ xs.length ∧ x = imgA xs (z : Int) := by
  have h4 := h.four
  simp only [gotIs, List.mem_cons, List.mem_flatten, List.mem_map, List.mem_range'_1]
  constructor
  · rintro (h0 | ⟨l, ⟨f, ⟨_, hf⟩, rfl⟩, hx⟩)
    · exact ⟨0, Nat.two_pow_pos _, h0.trans (img_zero h).symm⟩
    · rw [mem_sentIs] at hx
      obtain ⟨b, hb, rfl⟩ := hx
      have hp : 2 ^ (xs.length - f - 1) ≤ 8 := Nat.pow_le_pow_right (n := 2) (by omega) (show xs.length - f - 1 ≤ 3 by omega)
      obtain ⟨z, hz, e⟩ := zOf_in ⟨xs.length, by omega⟩ ⟨f, by omega⟩ (by show f < xs.length; omega) ⟨b, by omega⟩ hb
      exact ⟨z.val, hz, by rw [Nat.zero_add, ← e]⟩
  · rintro ⟨z, hz, rfl⟩
    have hp : 2 ^ xs.length ≤ 16 := Nat.pow_le_pow_right (n := 2) (by omega) h4
    rcases zOf_all ⟨xs.length, by omega⟩ ⟨z, by omega⟩ hz with e | ⟨f, hf, b, hb, e⟩
    · have e : z = 0 := e
      subst e
      exact .inl (img_zero h)
    · refine .inr ⟨_, ⟨f.val, ⟨by omega, by have hf : f.val < xs.length := hf; omega⟩, rfl⟩, ?_⟩
      rw [mem_sentIs]
      exact ⟨b.val, hb, by rw [Nat.zero_add, e]⟩
theorem st_nat {n : Nat} {x : Int} (h : St n x) : ∃ s : Nat, s < 2 ^ n ∧ x = (s : Int) := by
  obtain ⟨u, h1, h2⟩ := h; exact ⟨u.val, h2, h1⟩
theorem St.nat {n z : Nat} (h4 : n ≤ 4) (hz : z < 2 ^ n) : St n (z : Int) := by
  have hp : 2 ^ n ≤ 16 := Nat.pow_le_pow_right (n := 2) (by omega) h4
  exact ⟨⟨z, by omega⟩, rfl, hz⟩
theorem mem_spL {xs : List Int} (h : Rl xs.length xs) (x : Int) : x ∈ spL xs ↔ ∃ z : Nat, z < 2 ^ xs.length ∧ x = imgA xs (z : Int) := by
  simp only [spL, madeB, List.mem_map, List.mem_filter, List.mem_range, List.any_eq_true, beq_iff_eq]
  constructor
  · rintro ⟨s, ⟨_, z, hz, e⟩, rfl⟩
    exact ⟨z, hz, e.symm⟩
  · rintro ⟨z, hz, rfl⟩
    obtain ⟨s, hs, e⟩ := st_nat (St.img h (St.nat h.four hz))
    exact ⟨s, ⟨hs, z, hz, e⟩, e.symm⟩

/-! strictly ascending lists -/
theorem asc_ext : ∀ {a b : List Int}, a.Pairwise (· < ·) → b.Pairwise (· < ·) → (∀ x, x ∈ a ↔ x ∈ b) → a = b
  | [], [], _, _, _ => rfl
  | [], y :: b, _, _, h => by have := (h y).2 (by simp); simp at this
  | x :: a, [], _, _, h => by have := (h x).1 (by simp); simp at this
  | x :: a, y :: b, ha, hb, h => by
    rw [List.pairwise_cons] at ha hb
    have hxy : x = y := by
      have h1 := (h x).1 (by simp)
      have h2 := (h y).2 (by simp)
      simp only [List.mem_cons] at h1 h2
      rcases h1 with h1 | h1
      · exact h1
      · rcases h2 with h2 | h2
        · exact h2.symm
        · have := ha.1 y h2; have := hb.1 x h1; omega
    subst hxy
    congr 1
    refine asc_ext ha.2 hb.2 fun z => ?_
    have hz := h z
    simp only [List.mem_cons] at hz
    constructor
    · intro hm
      rcases hz.1 (.inr hm) with e | e
      · subst e; have := ha.1 z hm; omega
      · exact e
    · intro hm
      rcases hz.2 (.inr hm) with e | e
      · subst e; have := hb.1 z hm; omega
      · exact e
theorem spL_asc (xs : List Int) : (spL xs).Pairwise (· < ·) := by
  unfold spL
  rw [List.pairwise_map]
  refine (List.pairwise_lt_range.filter _).imp fun h => by omega

theorem compact_asc {d : Array Int} (hs : ∀ i j, i < j → j < d.size → d[i]! ≤ d[j]!) : ∀ m, m ≤ d.size → (Lib.compactUpTo d m).Pairwise (· < ·) ∧ (∀ x, x ∈ Lib.compactUpTo d m ↔ ∃ i, i < m ∧ d[i]! = x)
  | 0, _ => by
    have : Lib.compactUpTo d 0 = [] := by rfl
    rw [this]; simp
  | m + 1, hm => by
    obtain ⟨h1, h2⟩ := compact_asc hs m (by omega)
    rw [Lib.compactUpTo_succ]
    cases hk : Lib.keeps d m with
    | true =>
      simp only [if_true]
      refine ⟨?_, fun x => ?_⟩
      · rw [List.pairwise_append]
        refine ⟨h1, List.pairwise_singleton _ _, fun x hx y hy => ?_⟩
        rw [List.mem_singleton] at hy
        subst hy
        obtain ⟨i, hi, rfl⟩ := (h2 x).1 hx
        -- d[m] differs from d[m-1]
        have hne : d[m]! ≠ d[m - 1]! := by
          intro e
          have := Lib.keeps_neg (d := d) (m := m) (by omega) e
          rw [this] at hk; cases hk
        have h3 := hs (m - 1) m (by omega) (by omega)
        rcases Nat.lt_or_ge i (m - 1) with h4 | h4
        · have := hs i (m - 1) h4 (by omega); omega
        · have : i = m - 1 := by omega
          subst this; omega
      · rw [List.mem_append, List.mem_singleton, h2]
        constructor
        · rintro (⟨i, hi, e⟩ | e)
          · exact ⟨i, by omega, e⟩
          · exact ⟨m, by omega, e.symm⟩
        · rintro ⟨i, hi, e⟩
          by_cases e2 : i = m
          · subst e2; exact .inr e.symm
          · exact .inl ⟨i, by omega, e⟩
    | false =>
      simp only [Bool.false_eq_true, if_false, List.append_nil]
      refine ⟨h1, fun x => ?_⟩
      rw [h2]
      have he : 0 < m ∧ d[m]! = d[m - 1]! := by
        by_cases hm0 : m = 0
        · subst hm0
          have := Lib.keeps_lt_one d 0 (by omega)
          rw [this] at hk; cases hk
        · refine ⟨by omega, Classical.byContradiction fun hne => ?_⟩
          have := Lib.keeps_pos (d := d) (m := m) hne
          rw [this] at hk; cases hk
      constructor
      · rintro ⟨i, hi, e⟩; exact ⟨i, by omega, e⟩
      · rintro ⟨i, hi, e⟩
        by_cases e2 : i = m
        · subst e2; exact ⟨i - 1, by omega, by rw [← he.2]; exact e⟩
        · exact ⟨i, by omega, e⟩
theorem compact_sorted {zs : List Int} (hs : zs.Pairwise (· ≤ ·)) : (Lib.compact zs).Pairwise (· < ·) ∧ ∀ x, x ∈ Lib.compact zs ↔ x ∈ zs := by
  have h := compact_asc (d := zs.toArray) (fun i j hij hj => by
    have hj' : j < zs.length := by simpa using hj
    have := List.pairwise_iff_getElem.1 hs i j (by omega) hj' hij
    simpa [getElem!_pos, hj', show i < zs.length by omega] using this) zs.length (by simp)
  refine ⟨h.1, fun x => ?_⟩
  show x ∈ Lib.compactUpTo zs.toArray zs.length ↔ x ∈ zs
  rw [h.2]
  constructor
  · rintro ⟨i, hi, rfl⟩
    simp [hi]
  · intro hx
    obtain ⟨i, hi, rfl⟩ := List.mem_iff_getElem.1 hx
    exact ⟨i, hi, by simp [hi]⟩

theorem space_is {xs : List Int} (h : Rl xs.length xs) : Lib.compact ((gotIs xs xs.length).mergeSort fun x y => decide (x ≤ y)) = spL xs := by
  have hsorted : ((gotIs xs xs.length).mergeSort fun x y => decide (x ≤ y)).Pairwise (· ≤ ·) := by
    have := List.pairwise_mergeSort (le := fun (x y : Int) => decide (x ≤ y)) (fun a b c h1 h2 => by simp at *; omega) (fun a b => by simp; omega) (gotIs xs xs.length)
    exact this.imp fun h => by simpa using h
  obtain ⟨h1, h2⟩ := compact_sorted hsorted
  refine asc_ext h1 (spL_asc xs) fun x => ?_
  rw [h2, List.mem_mergeSort, mem_gotIs h, mem_spL h]
end Go.Proofs.Ytgmjdkhegbdbjaa

namespace Go.Proofs.Ytgmjdkhegbdbjaa
open Go.RowKit

theorem Try.info4 : (Try.prog.info? 4).map (fun i => (i.zero, i.size, i.bytes)) = some (some (.bool false), 1, 1) := by kernel_rfl
def seenB (xs : List Int) (k s : Nat) : Bool := (List.range k).any fun (z : Nat) => imgA xs (z : Int) == (s : Int)
def seenL (xs : List Int) (k : Nat) : List Value := (List.range (2 ^ xs.length)).map fun s => Value.bool (seenB xs k s)
theorem seenL_len (xs : List Int) (k : Nat) : (seenL xs k).length = 2 ^ xs.length := by simp [seenL]
theorem seenL_step (xs : List Int) (k s : Nat) (hs : s < 2 ^ xs.length) (h : imgA xs (k : Int) = (s : Int)) : (seenL xs k).set s (.bool true) = seenL xs (k + 1) := by
  apply List.ext_getElem?
  intro i
  rw [List.getElem?_set]
  unfold seenL
  by_cases hi : i < 2 ^ xs.length
  · by_cases e : s = i
    · subst e
      simp [hs, seenB, List.range_succ, h]
    · have hne : ¬ ((s : Int) = (i : Int)) := by omega
      simp [hi, e, seenB, List.range_succ, h, hne]
  · simp [hi]
    omega
theorem seenL_zero (xs : List Int) : seenL xs 0 = List.replicate (2 ^ xs.length) (.bool false) := by
  apply List.ext_getElem?
  intro i
  unfold seenL
  by_cases hi : i < 2 ^ xs.length <;> simp [hi, seenB]

set_option maxHeartbeats 1000000 in
theorem l7Space_any {xs : List Int} (R : Rl xs.length xs) (ao : Option Addr) (ca : Nat) (w : World) (hx : Rd w ao xs) :
    Calls Try.prog 35 #[.slice ao xs.length ca] w fun e w' => e = .returned (.slice (some ⟨w.heap.size, 0, none⟩) (2 ^ xs.length) (2 ^ xs.length)) ∧
      w'.ownsRow w.heap.size 4 1 (.slice (some ⟨w.heap.size, 0, none⟩) (2 ^ xs.length) (2 ^ xs.length)) (2 ^ xs.length) (seenL xs (2 ^ xs.length)) ∧ Below w.heap.size w w' := by
  obtain ⟨i0, hi, hz0, hz1, hz2⟩ := info_parts Try.info4
  have h4 := R.four
  have h1 := R.one
  obtain ⟨M, hM⟩ : ∃ M, 2 ^ xs.length = M := ⟨_, rfl⟩
  have hM16 : M ≤ 16 := by rw [← hM]; exact Nat.pow_le_pow_right (n := 2) (by omega) h4
  have hsh : IntKind.i64.wrap ((2 : Int) ^ xs.length) = (M : Int) := by
    rw [← hM, IntKind.wrap_i64]
    have : ((2 : Int) ^ xs.length) = ((2 ^ xs.length : Nat) : Int) := by simp
    rw [this]
    omega
  have HR := Lib.hid R
  have HX := Lib.hid hx
  clear R hx
  go_enter Try.func35, Try.ntmps35
  go_wp2_with (at_make; refine wpList_make_full _ rfl _ _ 40 rfl w.heap.size 4 i0 (.bool false) 1 Try.underlying40 hi hz0 hz1 _ _ _ _ M rfl rfl rfl rfl ?c1 ?c2 ?c3 ?_)
  case c1 => rw [hz2]; omega
  case c2 => unfold maxLen; omega
  case c3 => exact Nat.le_refl _
  intro w1 hown hgrow
  have hB : Below w.heap.size w w1 := (Below.refl _ _).grown hgrow (Nat.le_refl _) (by simp)
  rw [toList_madeCells_one] at hown
  have HM := Lib.hid hM
  clear hgrow hM
  go_wp2
  go_loopw [4] (fun i wr => ∃ k : Nat, k ≤ M ∧ i = .int .i64 k ∧ wr.ownsRow w.heap.size 4 1 (.slice (some ⟨w.heap.size, 0, none⟩) M M) M (seenL xs k) ∧ Below w.heap.size w wr)
    (fun i _ => M - (intOf i).toNat)
  case atStart => exact ⟨0, Nat.zero_le _, rfl, by rw [seenL_zero, HM.out]; exact hown, hB⟩
  case round =>
    obtain ⟨k, hk, rfl, ho, hb⟩ := hrel
    clear hown hB
    by_cases hlt : k < M
    · obtain ⟨s, hs, he⟩ := st_nat (St.img HR.out (St.nat h4 (z := k) (by rw [HM.out]; exact hlt)))
      have hc := l1Image_any ao ca xs k wr (by omega) h4 (HX.out.below hb)
      have hstep := seenL_step xs k s hs he
      have he' : imgTo xs (k : Int) xs.length = (s : Int) := he
      rw [he'] at hc
      rw [HM.out] at hs
      have HC := Lib.hid hc
      have HS := Lib.hid hstep
      have HO := Lib.hid ho
      have HB := Lib.hid hb
      clear hc hstep he he' ho hb
      have hsi : (s : Int) < (M : Int) := by omega
      go_wp2_with fail
      refine HC.out.mono ?_
      rintro e w2 ⟨rfl, hd⟩
      have o2 := hd.row HO.out
      obtain ⟨u, hu⟩ : ∃ u, (seenL xs k)[s]? = some u := ⟨_, List.getElem?_eq_getElem (by rw [seenL_len, HM.out]; exact hs)⟩
      have c2 : w2.cell? ⟨w.heap.size, s, none⟩ = some u := (o2.cellAt s (by omega)).trans hu
      have f2 := o2.frozenAt s
      have OO := Lib.hid o2
      have BB := Lib.hid (HB.out.trans (hd.below _))
      clear o2 hu hd
      go_wp2
      go_roundw
      case rel =>
        refine ⟨k + 1, by omega, by go_num, ?_, BB.out.setCell (Nat.le_refl _) _⟩
        have := (OO.out.stored s (.bool true)).1
        rw [HS.out] at this
        exact this
      case measure => simp [intOf]; omega
    · go_wp2
      go_ret
      obtain rfl : k = M := by omega
      exact ⟨by rw [HM.out]; rfl, by rw [HM.out]; exact ho, hb⟩

def spTo (xs : List Int) (k : Nat) : List Int := ((List.range k).filter (madeB xs)).map fun (s : Nat) => (s : Int)
theorem spTo_step (xs : List Int) (k : Nat) : spTo xs (k + 1) = spTo xs k ++ (if madeB xs k then [(k : Int)] else []) := by
  unfold spTo
  rw [List.range_succ, List.filter_append, List.map_append]
  cases h : madeB xs k <;> simp [h]
theorem spTo_len (xs : List Int) (k : Nat) : (spTo xs k).length ≤ k := by
  unfold spTo
  rw [List.length_map]
  exact Nat.le_trans (List.length_filter_le _ _) (by simp)
theorem seenL_get (xs : List Int) (s : Nat) (hs : s < 2 ^ xs.length) : (seenL xs (2 ^ xs.length))[s]? = some (.bool (madeB xs s)) := by
  simp [seenL, hs, seenB, madeB]
theorem rows_apartB {w : World} {b1 b2 s1 s2 n1 m1 n2 g c1 : Nat} {v : Value} {u1 u2 : List Value} (h : w.ownsRow b1 4 s1 (.slice (some ⟨g, 0, none⟩) n1 c1) m1 u1) (k : w.ownsRow b2 3 s2 v n2 u2) : v.ownBlock ≠ some g := by
  intro e
  rcases h.2 with ⟨h2, _⟩ | ⟨g', cap', cur', he, _, hh, _⟩
  · cases h2
  · cases he
    rcases k.2 with ⟨rfl, _⟩ | ⟨gp, cap2, cur2, rfl, _, kh, _⟩
    · cases e
    · simp only [Value.ownBlock, Option.some.injEq] at e
      subst e
      rw [hh] at kh
      simp only [Option.some.injEq, Obj.cells.injEq] at kh
      exact absurd kh.2.1 (by decide)

set_option maxHeartbeats 2000000 in
theorem specSpaceOf_any (ao : Option Addr) (ca : Nat) (xs : List Int) (w : World) (hl : xs.length ≤ 1048576) (hx : Rd w ao xs) :
    Calls Try.prog 12 #[.slice ao xs.length ca] w (Gave w (ifR (relIn xs) (spL xs)) (relIn xs)) := by
  have B0 := below_one w (.cells #[] 3)
  have hx0 := hx.below B0
  have h1 := specRelIn_any ao ca xs (w.alloc (.cells #[] 3)) hl hx0
  have oX := row_lit0 w
  cases hp : relIn xs with
  | false =>
    rw [hp] at h1
    have H1 := Lib.hid h1
    have HO := Lib.hid (And.intro oX B0)
    clear h1 hp oX B0 hx0
    go_enter Try.func12, Try.ntmps12
    go_wp2_with (go_at_call 34; refine H1.out.mono ?_; rintro e w1 ⟨rfl, hd⟩)
    go_ret2
    exact ⟨_, rfl, hd.row HO.out.1, HO.out.2.trans (hd.below _)⟩
  | true =>
    rw [hp] at h1
    have HR := Lib.hid (Rl.of hp)
    have h4 := HR.out.four
    have H1 := Lib.hid h1
    have HO := Lib.hid (And.intro oX B0)
    have HX0 := Lib.hid hx0
    obtain ⟨i0, hi, hz0, hz1, hz2⟩ := info_parts Try.info3
    obtain ⟨M, hM⟩ : ∃ M, 2 ^ xs.length = M := ⟨_, rfl⟩
    have hM16 : M ≤ 16 := by rw [← hM]; exact Nat.pow_le_pow_right (n := 2) (by omega) h4
    have HM := Lib.hid hM
    clear h1 hp oX B0 hx0 hM
    go_enter Try.func12, Try.ntmps12
    go_wp2_with fail
    refine H1.out.mono ?_
    rintro e w1 ⟨rfl, hd⟩
    go_wp2_with fail
    refine (l7Space_any HR.out ao ca w1 (hd.rd HX0.out)).mono ?_
    rintro e w2 ⟨rfl, ob, hb2⟩
    have o1 := hd.row HO.out.1
    have o2 := own_keep o1 hb2 (fun q hq => (o1.lt q hq).2)
    have B1 := HO.out.2.trans (hd.below _)
    have B2 := B1.trans (hb2.mono B1.size)
    have ob2 : w2.ownsRow w.heap.size 4 1 (.slice (some ⟨w1.heap.size, 0, none⟩) (2 ^ xs.length) (2 ^ xs.length)) (2 ^ xs.length) (seenL xs (2 ^ xs.length)) := by
      refine ⟨ob.1, ?_⟩
      rcases ob.2 with ⟨hn, _⟩ | ⟨g, cap, cur, hv, hbg, rest⟩
      · cases hn
      · exact .inr ⟨g, cap, cur, hv, Nat.le_trans B1.size hbg, rest⟩
    rw [HM.out] at ob2 ⊢
    have hg1 : w1.heap.size < w2.heap.size := (ob2.lt _ rfl).2
    generalize w1.heap.size = g at ob2 hg1 ⊢
    clear o1 B1 hb2 hd ob
    go_wp2
    go_loopw [4, 6] (fun v i wr => ∃ k : Nat, k ≤ M ∧ i = .int .i64 k ∧ wr.ownsRow w.heap.size 3 1 v (spTo xs k).length ((spTo xs k).map (Value.int .i64)) ∧ wr.ownsRow w.heap.size 4 1 (.slice (some ⟨g, 0, none⟩) M M) M (seenL xs M) ∧ Below w.heap.size w wr)
      (fun _ i _ => M - (intOf i).toNat)
    case atStart => exact ⟨0, Nat.zero_le _, rfl, o2, ob2, B2⟩
    case round =>
      clear o2 B2 ob2 hg1
      obtain ⟨k, hk, rfl, ho, hbo, hB⟩ := hrel
      by_cases hlt : k < M
      · have hc0 := hbo.cellAt k (by omega)
        have hse : (seenL xs M)[k]? = some (.bool (madeB xs k)) := by rw [← HM.out]; exact seenL_get xs k (by rw [HM.out]; exact hlt)
        rw [hse] at hc0
        have hstep := spTo_step xs k
        have hlen := spTo_len xs k
        have hap := rows_apartB hbo ho
        have hki : (k : Int) < (M : Int) := by omega
        have HB := Lib.hid hbo
        cases hm : madeB xs k with
        | false =>
          rw [hm] at hc0 hstep
          rw [show (if false = true then [(k : Int)] else []) = [] from rfl, List.append_nil] at hstep
          have HS := Lib.hid hstep
          clear hse hbo hstep hm
          go_wp2
          go_roundw
          case rel => exact ⟨k + 1, by omega, by go_num, by rw [HS.out]; exact ho, HB.out, hB⟩
          case measure => simp [intOf]; omega
        | true =>
          rw [hm] at hc0 hstep
          rw [show (if true = true then [(k : Int)] else []) = [(k : Int)] from rfl] at hstep
          have HS := Lib.hid hstep
          clear hse hbo hstep hm
          go_wp2_with (at_builtin; refine wpList_append_own _ rfl (.tmp 24) (.tmp 26) 22 rfl w.heap.size 3 i0 (.int .i64 0) 1 8 Try.underlying22 hi hz0 hz1 hz2 rfl (by decide) _ _ _ rfl (ho.alloc _) ⟨wr.heap.size, 0, none⟩ 1 1 [_] rfl rfl (cell_one_new _ _ _) (by simp [Value.oneCell']) (by unfold maxLen; omega) (by omega) (by have := hB.size; simp; omega) ?_)
          intro v' w4 hown' hgrow _
          have hb' := own_step' ho hB hB.size _ hgrow
          have hbn := (HB.out.alloc (.cells #[.int .i64 k] 3)).kept hgrow (.inr (fun e => hap e.symm))
          clear ho hB hgrow hc0 hap
          go_wp2
          go_roundw
          case rel =>
            refine ⟨k + 1, by omega, by go_num, ?_, hbn, hb'⟩
            rw [HS.out, List.map_append, List.length_append]
            exact hown'
          case measure => simp [intOf]; omega
      · obtain rfl : k = M := by omega
        have he : spTo xs k = spL xs := by rw [← HM.out]; rfl
        rw [he] at ho
        go_wp2
        go_ret2
        exact ⟨_, rfl, ho, hB⟩
end Go.Proofs.Ytgmjdkhegbdbjaa

namespace Go.Ph
open Go Go.Conc Go.ConcN Go.RowKit Go.Conc.Lib Go.ConcR.Gen Go.ConcN.Gen Go.Br Go.Proofs Go.Proofs.Ytgmjdkhegbdbjaa Go.Sort
set_option linter.unusedVariables false
set_option linter.unusedSimpArgs false
set_option linter.unusedSectionVars false
set_option maxRecDepth 100000

section
theorem run_not (a : Act) (o : Oper) (x : Tmp) (b : Bool) (t : TypeId) (ho : o.op = .unOp .not t (.tmp x)) (h : a.eval (.tmp x) = .bool b) (w : World) :
    (execOp a.eval o).run Try.prog w = .ok (.value (.bool (!b))) w ∧ (execOp a.eval o).events Try.prog w #[] = #[] := by
  unfold execOp
  simp only [ho, h]
  constructor <;> simp [go_sem]
theorem run_neqB (a : Act) (o : Oper) (x y : Tmp) (b c : Bool) (t t' : TypeId) (ht : t = 4) (ho : o.op = .binOp .neq t (.tmp x) (.tmp y) t') (h : a.eval (.tmp x) = .bool b) (h2 : a.eval (.tmp y) = .bool c) (w : World) :
    (execOp a.eval o).run Try.prog w = .ok (.value (.bool (b != c))) w ∧ (execOp a.eval o).events Try.prog w #[] = #[] := by
  subst ht
  unfold execOp
  simp only [ho, h, h2]
  cases b <;> cases c <;> constructor <;> simp [go_sem] <;> rfl
theorem run_neqI (a : Act) (o : Oper) (x y : Tmp) (i j : Int) (t t' : TypeId) (ht : t = 3) (ho : o.op = .binOp .neq t (.tmp x) (.tmp y) t') (h : a.eval (.tmp x) = .int .i64 i) (h2 : a.eval (.tmp y) = .int .i64 j) (w : World) :
    (execOp a.eval o).run Try.prog w = .ok (.value (.bool (i != j))) w ∧ (execOp a.eval o).events Try.prog w #[] = #[] := by
  subst ht
  unfold execOp
  simp only [ho, h, h2]
  constructor <;> simp [go_sem]
theorem run_gtI (a : Act) (o : Oper) (x y : Operand) (i j : Int) (t t' : TypeId) (ho : o.op = .binOp .gtr t x y t') (h : a.eval x = .int .i64 i) (h2 : a.eval y = .int .i64 j) (w : World) :
    (execOp a.eval o).run Try.prog w = .ok (.value (.bool (decide (j < i)))) w ∧ (execOp a.eval o).events Try.prog w #[] = #[] := by
  unfold execOp
  simp only [ho, h, h2]
  constructor <;> simp [go_sem]
theorem run_pick (a : Act) (o : Oper) (x : Operand) (y z : Operand) (b : Bool) (v : Value) (ho : o.op = .pick x y z) (h : a.eval x = .bool b) (h2 : (if b then a.eval y else a.eval z) = v) (w : World) :
    (execOp a.eval o).run Try.prog w = .ok (.value v) w ∧ (execOp a.eval o).events Try.prog w #[] = #[] := by
  subst h2
  unfold execOp
  simp only [ho, h]
  cases b <;> simp [go_sem]
theorem run_alR (a : Act) (o : Oper) (t : TypeId) (ht : t = relTy) (ho : o.op = .alloc t) (w : World) :
    (execOp a.eval o).run Try.prog w = .ok (.value (.pointer (some ⟨w.heap.size, 0, none⟩))) (w.alloc (.cells #[.int .i64 0, .int .i64 0, .int .i64 0, .int .i64 0, .int .i64 0] relTy)) ∧ (execOp a.eval o).events Try.prog w #[] = #[] := by
  subst ht
  unfold execOp
  simp only [ho]
  constructor <;> simp [go_sem]
def Rel5 (w : World) (b : Nat) (z0 z1 z2 z3 z4 : Int) : Prop := w.heap[b]? = some (.cells #[.int .i64 z0, .int .i64 z1, .int .i64 z2, .int .i64 z3, .int .i64 z4] relTy (0, 0))
abbrev agg5 (n q0 q1 q2 q3 : Int) : Value := .agg #[.int .i64 n, .int .i64 q0, .int .i64 q1, .int .i64 q2, .int .i64 q3]
set_option maxHeartbeats 4000000 in
theorem run_stR (a : Act) (o : Oper) (x y : Tmp) (t : TypeId) (b : Nat) (n q0 q1 q2 q3 z0 z1 z2 z3 z4 : Int) (ht : t = relTy) (ho : o.op = .store t (.tmp x) (.tmp y)) (h : a.eval (.tmp x) = .pointer (some ⟨b, 0, none⟩)) (h2 : a.eval (.tmp y) = agg5 n q0 q1 q2 q3) (W : World) (hb : Rel5 W b z0 z1 z2 z3 z4) :
    ∃ u, (execOp a.eval o).run Try.prog W = .ok .skip u ∧ Rel5 u b n q0 q1 q2 q3 ∧ (∀ k, k ≠ b → u.heap[k]? = W.heap[k]?) ∧ u.heap.size = W.heap.size ∧ u.os = W.os ∧ u.output = W.output ∧ u.tape = W.tape ∧ u.drawn = W.drawn ∧ ∀ e ∈ (execOp a.eval o).events Try.prog W #[], ∃ i, e = ⟨.cell ⟨b, i, none⟩, true, false⟩ := by
  subst ht
  unfold Rel5 at hb ⊢
  have c0 : W.cell? ⟨b, 0, none⟩ = some (.int .i64 z0) := by simp [World.cell?, hb]
  have c1 : W.cell? ⟨b, 1, none⟩ = some (.int .i64 z1) := by simp [World.cell?, hb]
  have c2 : W.cell? ⟨b, 2, none⟩ = some (.int .i64 z2) := by simp [World.cell?, hb]
  have c3 : W.cell? ⟨b, 3, none⟩ = some (.int .i64 z3) := by simp [World.cell?, hb]
  have c4 : W.cell? ⟨b, 4, none⟩ = some (.int .i64 z4) := by simp [World.cell?, hb]
  have f : ∀ i, W.frozen? ⟨b, i, none⟩ = false := by intro i; simp [World.frozen?, hb]
  refine ⟨((((W.setCell ⟨b, 0, none⟩ (.int .i64 n)).setCell ⟨b, 1, none⟩ (.int .i64 q0)).setCell ⟨b, 2, none⟩ (.int .i64 q1)).setCell ⟨b, 3, none⟩ (.int .i64 q2)).setCell ⟨b, 4, none⟩ (.int .i64 q3), ?_, ?_, fun k hk => ?_, ?_, rfl, rfl, rfl, rfl, ?_⟩
  · unfold execOp
    simp only [ho, h, h2]
    generalize a.eval = ρ
    simp [go_sem, stored, c0, c1, c2, c3, c4, f]
  · exact heap_set (heap_set (heap_set (heap_set (heap_set hb))))
  · rw [heap_set_ne hk, heap_set_ne hk, heap_set_ne hk, heap_set_ne hk, heap_set_ne hk]
  · simp [World.setCell]
  · unfold execOp
    simp only [ho, h, h2]
    generalize a.eval = ρ
    intro e he
    simp [go_sem, storedEv, stored, c0, c1, c2, c3, c4, f] at he
    rcases he with rfl | rfl | rfl | rfl | rfl
    · exact ⟨0, rfl⟩
    · exact ⟨1, rfl⟩
    · exact ⟨2, rfl⟩
    · exact ⟨3, rfl⟩
    · exact ⟨4, rfl⟩
theorem run_ldR5 (a : Act) (o : Oper) (x : Tmp) (t : TypeId) (b : Nat) (z0 z1 z2 z3 z4 : Int) (ht : t = relTy) (ho : o.op = .load t (.tmp x)) (h : a.eval (.tmp x) = .pointer (some ⟨b, 0, none⟩)) (W : World) (hb : Rel5 W b z0 z1 z2 z3 z4) :
    (execOp a.eval o).run Try.prog W = .ok (.value (agg5 z0 z1 z2 z3 z4)) W ∧ ∀ e ∈ (execOp a.eval o).events Try.prog W #[], ∃ i, e = ⟨.cell ⟨b, i, none⟩, false, false⟩ := by
  subst ht
  unfold Rel5 at hb
  have c0 : W.cell? ⟨b, 0, none⟩ = some (.int .i64 z0) := by simp [World.cell?, hb]
  have c1 : W.cell? ⟨b, 1, none⟩ = some (.int .i64 z1) := by simp [World.cell?, hb]
  have c2 : W.cell? ⟨b, 2, none⟩ = some (.int .i64 z2) := by simp [World.cell?, hb]
  have c3 : W.cell? ⟨b, 3, none⟩ = some (.int .i64 z3) := by simp [World.cell?, hb]
  have c4 : W.cell? ⟨b, 4, none⟩ = some (.int .i64 z4) := by simp [World.cell?, hb]
  unfold execOp
  simp only [ho, h]
  generalize a.eval = ρ
  refine ⟨by simp [go_sem, c0, c1, c2, c3, c4], fun e he => ?_⟩
  simp [go_sem, c0, c1, c2, c3, c4] at he
  rcases he with rfl | rfl | rfl | rfl | rfl
  · exact ⟨0, rfl⟩
  · exact ⟨1, rfl⟩
  · exact ⟨2, rfl⟩
  · exact ⟨3, rfl⟩
  · exact ⟨4, rfl⟩
end

section
variable {Q : (Nat → Bool) → Goroutine → World → Prop} {Sh : Nat → Bool} {w : World} {b : Frame} {a : Act} {k : List Item} {cs : List Frame} {ops : Array Oper} {i : Nat} {rest : List Nat} {o : Oper} {c0 : Frame}
theorem ok_cell {u : World} {e : Event} {bk : Nat} {wt : Bool} (h : ∃ i, e = ⟨.cell ⟨bk, i, none⟩, wt, false⟩) (hs : Sh bk = false) (hl : bk < u.heap.size) : OkEv Sh u.heap.size e := by
  obtain ⟨i, rfl⟩ := h
  exact ⟨hs, hl⟩
/-- A block for a relation is made. -/
theorem b_alR {t : TypeId} (d : Tmp) (ho : ops[i]? = some o) (hw : Region.wanted o (yielded ops a.tmps) = true) (hd : o.dst = some d) (hk : b.kind ≠ .early) (ht : t = relTy) (hop : o.op = .alloc t)
    (h : ∀ a' u, a' = a.put (some d) (.pointer (some ⟨w.heap.size, 0, none⟩)) → Rel5 u w.heap.size 0 0 0 0 0 → u.heap.size = w.heap.size + 1 → BelowC w u → WB Try.prog Q Sh (G (b.at a' (.inRegion ops rest :: k)) cs) u) :
    WB Try.prog Q Sh (G (b.at a (.inRegion ops (i :: rest) :: k)) cs) w := by
  refine b_mem ho hw hk fun τ d' => ⟨_, ⟨_, (run_alR a o t ht hop (w.on τ d')).1, fun a' ea => ?_⟩, ⟨rfl, Nat.le_refl _, by rw [World.size_alloc]; exact Nat.le_succ _, fun b hb => hb.of (Below.heap_alloc _ _ _ (isCells_lt hb))⟩, fun e he => ?_⟩
  · rw [hd] at ea
    exact h a' _ ea (new_alloc (w := w.on τ d') _) (World.size_alloc ..) ⟨rfl, rfl, by rw [World.size_alloc]; exact Nat.le_succ _, fun k hk => Below.heap_alloc (w.on τ d') _ _ hk⟩
  · rw [(run_alR a o t ht hop (w.on τ d')).2] at he; simp at he
/-- It is written. -/
theorem b_stR {t : TypeId} {x y : Tmp} {bk : Nat} {n q0 q1 q2 q3 z0 z1 z2 z3 z4 : Int} (ho : ops[i]? = some o) (hw : Region.wanted o (yielded ops a.tmps) = true) (hd : o.dst = none) (hk : b.kind ≠ .early) (ht : t = relTy) (hop : o.op = .store t (.tmp x) (.tmp y))
    (hx : a.eval (.tmp x) = .pointer (some ⟨bk, 0, none⟩)) (hy : a.eval (.tmp y) = agg5 n q0 q1 q2 q3) (hb : Rel5 w bk z0 z1 z2 z3 z4) (hs : Sh bk = false)
    (h : ∀ u, Rel5 u bk n q0 q1 q2 q3 → (∀ k, k ≠ bk → u.heap[k]? = w.heap[k]?) → u.heap.size = w.heap.size → u.os = w.os → u.output = w.output → WB Try.prog Q Sh (G (b.at a (.inRegion ops rest :: k)) cs) u) :
    WB Try.prog Q Sh (G (b.at a (.inRegion ops (i :: rest) :: k)) cs) w := by
  refine b_memN ho hw hd hk fun τ d' => ?_
  obtain ⟨u, h1, h2, h3, h4, h5, h6, h7, h8, h9⟩ := run_stR a o x y t bk n q0 q1 q2 q3 z0 z1 z2 z3 z4 ht hop hx hy (w.on τ d') hb
  refine ⟨u, h1, ⟨h7, Nat.le_of_eq h8.symm, Nat.le_of_eq h4.symm, fun c hc => ?_⟩, fun e he => ok_cell (h9 e he) hs (lt_of_heap h2), h u h2 h3 h4 h5 h6⟩
  by_cases e : c = bk
  · subst e; exact ⟨_, _, _, h2⟩
  · exact hc.of (h3 c e)
/-- It is read. -/
theorem b_ldR {t : TypeId} {x : Tmp} {bk : Nat} {z0 z1 z2 z3 z4 : Int} (d : Tmp) (ho : ops[i]? = some o) (hw : Region.wanted o (yielded ops a.tmps) = true) (hd : o.dst = some d) (hk : b.kind ≠ .early) (ht : t = relTy) (hop : o.op = .load t (.tmp x))
    (hx : a.eval (.tmp x) = .pointer (some ⟨bk, 0, none⟩)) (hb : Rel5 w bk z0 z1 z2 z3 z4) (hs : Sh bk = false)
    (h : ∀ a', a' = a.put (some d) (agg5 z0 z1 z2 z3 z4) → WB Try.prog Q Sh (G (b.at a' (.inRegion ops rest :: k)) cs) w) :
    WB Try.prog Q Sh (G (b.at a (.inRegion ops (i :: rest) :: k)) cs) w := by
  refine b_mem ho hw hk fun τ d' => ?_
  obtain ⟨h1, h2⟩ := run_ldR5 a o x t bk z0 z1 z2 z3 z4 ht hop hx (w.on τ d') hb
  exact ⟨_, ⟨_, h1, fun a' ea => (h a' (by rw [ea, hd])).on τ d'⟩, .refl _, fun e he => ok_cell (h2 e he) hs (lt_of_heap hb)⟩
end
end Go.Ph

namespace Go.Proofs.Ytgmjdkhegbdbjaa
open Go.RowKit

end Go.Proofs.Ytgmjdkhegbdbjaa

namespace Go.Ph
open Go Go.Conc Go.ConcN Go.RowKit Go.Conc.Lib Go.ConcR.Gen Go.ConcN.Gen Go.Br Go.Proofs Go.Proofs.Ytgmjdkhegbdbjaa Go.Sort
set_option linter.unusedVariables false
set_option linter.unusedSimpArgs false
set_option linter.unusedSectionVars false

/-- A row of numbers of the walk's own. -/
structure RowB (Sh : Nat → Bool) (w : World) (g n cap : Nat) (us : List Int) : Prop where
  own : w.ownsRow g 3 1 (.slice (some ⟨g, 0, none⟩) n cap) n (us.map (Value.int .i64))
  sh : Sh g = false

section
variable {Q : (Nat → Bool) → Goroutine → World → Prop} {Sh Sh' : Nat → Bool} {w w' W : World} {cs : List Frame} {c0 : Frame} {ao bo : Option Addr} {ca cb g n cap : Nat} {xs ys us : List Int}

theorem own_of_heap {B : Nat} {e : TypeId} {sz n g cap : Nat} {us : List Value} (h : w.ownsRow B e sz (.slice (some ⟨g, 0, none⟩) n cap) n us) (k : w'.heap[g]? = w.heap[g]?) : w'.ownsRow B e sz (.slice (some ⟨g, 0, none⟩) n cap) n us := by
  refine ⟨h.1, ?_⟩
  rcases h.2 with ⟨hn, _⟩ | ⟨g1, cap1, cur, hv, hb, hg, rest⟩
  · cases hn
  · refine .inr ⟨g1, cap1, cur, hv, hb, ?_, rest⟩
    simp only [Value.slice.injEq, Option.some.injEq, Addr.mk.injEq, and_true, true_and] at hv
    rw [← hv.1] at hg ⊢
    exact k.trans hg
theorem RowB.cells (h : RowB Sh w g n cap us) : IsCells w g := by
  rcases h.own.2 with ⟨hn, _⟩ | ⟨g1, cap1, cur, hv, hb, hg, rest⟩
  · cases hn
  · simp only [Value.slice.injEq, Option.some.injEq, Addr.mk.injEq, and_true, true_and] at hv
    rw [← hv.1] at hg
    exact ⟨_, _, _, hg⟩
theorem RowB.lt (h : RowB Sh w g n cap us) : g < w.heap.size := isCells_lt h.cells
theorem RowB.keep (h : RowB Sh w g n cap us) (k : w'.heap[g]? = w.heap[g]?) (hs : Sh' g = false) : RowB Sh' w' g n cap us := ⟨own_of_heap h.own k, hs⟩
theorem RowB.bc (h : RowB Sh w g n cap us) (k : BelowC w w') (hs : ∀ b, b < w.heap.size → Sh' b = Sh b) : RowB Sh' w' g n cap us := h.keep (k.block g h.lt) ((hs g h.lt).trans h.sh)
theorem RowB.len (h : RowB Sh w g n cap us) : us.length = n := by have := h.own.1; simpa using this
theorem RowB.rd (h : RowB Sh w g n cap us) : RdB Sh w (some ⟨g, 0, none⟩) us := by
  have hl := h.len
  refine RdB.of ?_ fun b off hb _ => ?_
  · intro k x hx
    have hk : k < us.length := (List.getElem?_eq_some_iff.1 hx).1
    refine ⟨g, 0, rfl, h.lt, ?_⟩
    rw [Nat.zero_add, h.own.cellAt k (by omega), List.getElem?_map, hx]
    rfl
  · simp only [Option.some.injEq, Addr.mk.injEq] at hb
    rw [← hb.1]; exact h.sh

theorem rd_heap (h : Rd w ao xs) (e : W.heap = w.heap) : Rd W ao xs := by
  intro k x hx
  obtain ⟨b, off, h1, h2, h3⟩ := h k x hx
  exact ⟨b, off, h1, by rw [e]; exact h2, (World.cell?_of_block (a := ⟨b, off + k, none⟩) (by rw [e])).trans h3⟩
theorem RdB.on (h : RdB Sh w ao xs) (e : W.heap = w.heap ∨ W.heap = (void Sh w).heap) : Rd W ao xs := e.elim (rd_heap h.1) (rd_heap h.2)
theorem bc_from (e : W.heap = w.heap) (e1 : W.os = w.os) (e2 : W.output = w.output) (h : Below W.heap.size W w') : BelowC w w' :=
  ⟨h.os.trans e1, h.output.trans e2, by rw [← e]; exact h.size, fun k hk => by rw [← e]; exact h.block k (by rw [e]; exact hk)⟩

/-- ████ a call of a known function -/
theorem bk {f : FuncId} {args : Array Value} (hK : kfs.contains f = true) (kw : KW Try.prog link.tWg Sh w) {R : World → Value → World → Prop} (h : ∀ W : World, W.heap.size = w.heap.size → (W.heap = w.heap ∨ W.heap = (void Sh w).heap) → Calls Try.prog f args W fun e w' => ∃ v, e = .returned v ∧ R W v w')
    (hq : ∀ (W : World) (v : Value) (w' : World), W.heap = w.heap → W.os = w.os → W.output = w.output → R W v w' → WB Try.prog Q Sh ⟨c0.finish v, cs, .running, none, none⟩ w') : WB Try.prog Q Sh (gor (Frame.enter Try.prog f args .normal) [] (c0 :: cs)) w := by
  refine callK kEnv hK kw (R := R) ?_ fun τ v w' hR => hq (w.on τ 0) v w' rfl rfl rfl hR
  rintro W (⟨τ, rfl⟩ | ⟨τ, rfl⟩)
  · exact h _ rfl (.inl rfl)
  · exact h _ void_size (.inr rfl)

theorem bk_relFrom (kw : KW Try.prog link.tWg Sh w) (hl : xs.length ≤ 1048576) (hx : RdB Sh w ao xs)
    (hq : ∀ w', BelowC w w' → KW Try.prog link.tWg Sh w' → WB Try.prog Q Sh ⟨c0.finish (.tuple #[if relIn xs then relOf xs else rel5 0 0 0 0 0, .bool (relIn xs)]), cs, .running, none, none⟩ w') :
    WB Try.prog Q Sh (gor (Frame.enter Try.prog 36 #[.slice ao xs.length ca] .normal) [] (c0 :: cs)) w := by
  refine bk rfl kw (R := fun W v w' => v = .tuple #[if relIn xs then relOf xs else rel5 0 0 0 0 0, .bool (relIn xs)] ∧ Below W.heap.size W w') (fun W hs hh => ?_) ?_
  · cases h : relIn xs with
    | true => exact (relationFrom_yes ao ca xs W h (hx.on hh)).mono fun e w' ⟨h1, h2⟩ => ⟨_, h1, rfl, h2⟩
    | false => exact (relationFrom_no ao ca xs W hl h (hx.on hh)).mono fun e w' ⟨h1, h2⟩ => ⟨_, h1, rfl, h2⟩
  · rintro W v w' e e1 e2 ⟨rfl, hb⟩
    have hbc := bc_from e e1 e2 hb
    exact hq _ hbc (kw.bc hbc)
/-- A list of its own, as it is read. -/
theorem read_own {B : Nat} {v : Value} {r : List Int} (kw : KW Try.prog link.tWg Sh w') (hs : ∀ b, Sh b = true → b < B) (ho : w'.ownsRow B 3 1 v r.length (r.map (Value.int .i64))) : ∃ aw cw, v = .slice aw r.length cw ∧ RdB Sh w' aw r := by
  rcases ho.2 with ⟨rfl, hn⟩ | ⟨g, cap, cur, rfl, hb, hg, rest⟩
  · refine ⟨none, 0, by rw [hn], ?_⟩
    rw [List.eq_nil_of_length_eq_zero hn]
    exact ⟨fun k x hx => by simp at hx, fun k x hx => by simp at hx⟩
  · refine ⟨_, cap, rfl, RowB.rd (n := r.length) (cap := cap) ⟨⟨ho.1, .inr ⟨g, cap, cur, rfl, Nat.le_refl _, hg, rest⟩⟩, ?_⟩⟩
    cases h : Sh g with
    | false => rfl
    | true => have := hs g h; omega
end
end Go.Ph

namespace Go.Ph
open Go Go.Conc Go.ConcN Go.RowKit Go.Conc.Lib Go.ConcR.Gen Go.ConcN.Gen Go.Br Go.Proofs Go.Proofs.Ytgmjdkhegbdbjaa Go.Sort
set_option linter.unusedVariables false

theorem wantedG {ops : Array Oper} {a : Act} {o : Oper} {j d : Nat} {b c : Bool} (hg : o.guard = some (j, b)) (hd : (ops[j]?).bind (·.dst) = some d) (he : a.eval (.tmp d) = .bool c) : Region.wanted o (yielded ops a.tmps) = (c == b) := by
  have h2 : yielded ops a.tmps j = some c := by
    unfold yielded
    simp only [hd, Option.bind_some]
    have he' : (a.tmps[d]?).getD undef = .bool c := by simpa [Act.eval, Array.getD_eq_getD_getElem?] using he
    cases h : a.tmps[d]? with
    | none => rw [h] at he'; cases he'
    | some v => rw [h] at he'; simp only [Option.getD_some] at he'; rw [he']
  unfold Region.wanted
  simp [hg, h2]
theorem wantedY {ops : Array Oper} {a : Act} {o : Oper} {j d : Nat} {b : Bool} (hg : o.guard = some (j, b)) (hd : (ops[j]?).bind (·.dst) = some d) (he : a.eval (.tmp d) = .bool b) : Region.wanted o (yielded ops a.tmps) = true := by
  rw [wantedG hg hd he]; simp
theorem wantedN {ops : Array Oper} {a : Act} {o : Oper} {j d : Nat} {b : Bool} (hg : o.guard = some (j, !b)) (hd : (ops[j]?).bind (·.dst) = some d) (he : a.eval (.tmp d) = .bool b) : Region.wanted o (yielded ops a.tmps) = false := by
  rw [wantedG hg hd he]; cases b <;> rfl
theorem run_pickT (a : Act) (o : Oper) (x y z : Operand) (v : Value) (ho : o.op = .pick x y z) (h : a.eval x = .bool true) (h2 : a.eval y = v) (w : World) :
    (execOp a.eval o).run Try.prog w = .ok (.value v) w ∧ (execOp a.eval o).events Try.prog w #[] = #[] := run_pick a o x y z true v ho h h2 w
theorem run_pickF (a : Act) (o : Oper) (x y z : Operand) (v : Value) (ho : o.op = .pick x y z) (h : a.eval x = .bool false) (h2 : a.eval z = v) (w : World) :
    (execOp a.eval o).run Try.prog w = .ok (.value v) w ∧ (execOp a.eval o).events Try.prog w #[] = #[] := run_pick a o x y z false v ho h h2 w
theorem RowB.stay {Sh : Nat → Bool} {w w' : World} {g n cap : Nat} {us : List Int} (h : RowB Sh w g n cap us) (k : w'.heap[g]? = w.heap[g]?) : RowB Sh w' g n cap us := h.keep k h.sh
theorem enter_acts (m : Nat) (vs : Array Value) : ∃ a0 : Act, a0 = { tmps := vs ++ Array.replicate m undef, defers := [] } ∧ a0.tmps.size = vs.size + m ∧ a0.defers = [] ∧ ∀ (d : Nat) v, vs[d]? = some v → a0.eval (.tmp d) = v := by
  refine ⟨_, rfl, by simp, rfl, fun d v h => ?_⟩
  have hd : d < vs.size := (Array.getElem?_eq_some_iff.1 h).1
  simp only [Act.eval, Array.getD_eq_getD_getElem?]
  rw [Array.getElem?_append_left hd, h]
  rfl
theorem kp {a a' : Act} {d k : Nat} {v u : Value} (ea : a' = a.put (some d) v) (e : a.eval (.tmp k) = u) (h : k ≠ d) : a'.eval (.tmp k) = u := by rw [ea]; exact (eval_put (by omega)).trans e
theorem nw {a a' : Act} {d n : Nat} {v : Value} (ea : a' = a.put (some d) v) (hz : a.tmps.size = n) (h : d < n) : a'.eval (.tmp d) = v := by rw [ea]; exact eval_put_same (by rw [hz]; exact h)
theorem kd {a a' : Act} {d : Nat} {v : Value} (ea : a' = a.put (some d) v) (h : a.defers = []) : a'.defers = [] := by rw [ea]; exact h
theorem kz {a a' : Act} {d n : Nat} {v : Value} (ea : a' = a.put (some d) v) (h : a.tmps.size = n) : a'.tmps.size = n := by rw [ea]; simpa [Act.put] using h
theorem agree_more {Sh : Nat → Bool} {Wg B : Nat} (h : B ≤ Wg) : ∀ b, b < B → (Sh b || b == Wg) = Sh b := fun b hb => by
  have : (b == Wg) = false := by simp; omega
  rw [this, Bool.or_false]
theorem agree_next {Sh1 S0 : Nat → Bool} {Wg B B' : Nat} (h : B' ≤ Wg) (hb : B ≤ B') (ag : ∀ b, b < B → Sh1 b = S0 b) : ∀ b, b < B → (Sh1 b || b == Wg) = S0 b := fun b hlt => (agree_more (Sh := Sh1) h b (Nat.lt_of_lt_of_le hlt hb)).trans (ag b hlt)
theorem own_res2 {fn : Func} {a : Act} {t u : Tmp} {x y : Value} (h : fn.results = #[.tmp t, .tmp u]) (h1 : a.eval (.tmp t) = x) (h2 : a.eval (.tmp u) = y) (P : Program) (W : World) : (results fn a.tmps).run P W = .ok (.tuple #[x, y]) W := by
  rw [results_tmp2 h]
  have h1' : a.tmps.getD t undef = x := h1
  have h2' : a.tmps.getD u undef = y := h2
  rw [h1', h2']
theorem own_res1 {fn : Func} {a : Act} {t : Tmp} {x : Value} (h : fn.results = #[.tmp t]) (h1 : a.eval (.tmp t) = x) (P : Program) (W : World) : (results fn a.tmps).run P W = .ok x W := by
  rw [results_tmp h]
  exact congrArg (fun v => Result.ok v W) h1

end Go.Ph

namespace Go.Ph
open Go Go.Conc Go.ConcN Go.RowKit Go.Conc.Lib Go.ConcR.Gen Go.ConcN.Gen Go.Br Go.Proofs Go.Proofs.Ytgmjdkhegbdbjaa Go.Sort
set_option linter.unusedVariables false
set_option linter.unusedSimpArgs false
set_option linter.unusedSectionVars false
set_option maxRecDepth 100000


section
variable {Q : (Nat → Bool) → Goroutine → World → Prop} {Sh : Nat → Bool} {w w0 : World} {cs : List Frame} {c0 : Frame} {ao bo : Option Addr} {ca cb : Nat} {xs ys : List Int}

theorem sentI_is (xs : List Int) (f : Nat) : ∀ r b, sentI xs f b r = sentIs xs f b r
  | 0, _ => rfl
  | r + 1, b => by simp [sentI, sentIs, sentI_is xs f r (b + 1)]
theorem spaceL_is (h : Rl xs.length xs) : spaceL xs = spL xs := by
  rw [← space_is h]
  unfold spaceL sortI
  have : gotI xs xs.length = gotIs xs xs.length := by
    unfold gotI gotIs
    congr 2
    exact List.map_congr_left fun j _ => sentI_is xs j _ _
  rw [this]
theorem spL_len16 (h : xs.length ≤ 4) : (spL xs).length ≤ 16 := by
  have := spTo_len xs (2 ^ xs.length)
  have h2 : 2 ^ xs.length ≤ 16 := Nat.pow_le_pow_right (n := 2) (by omega) h
  have : (spL xs).length ≤ 2 ^ xs.length := this
  omega
theorem notSh (kw : KW Try.prog link.tWg Sh w) : Sh w.heap.size = false := by
  cases h : Sh w.heap.size with
  | false => rfl
  | true => have := kw.lt h; omega
theorem bc_own {u1 u2 : World} {bk : Nat} (h : BelowC w u1) (hb : w.heap.size ≤ bk) (hbl : ∀ k, k ≠ bk → u2.heap[k]? = u1.heap[k]?) (hz : u2.heap.size = u1.heap.size) (ho : u2.os = u1.os) (hp : u2.output = u1.output) : BelowC w u2 :=
  ⟨ho.trans h.os, hp.trans h.output, by rw [hz]; exact h.size, fun k hk => (hbl k (by omega)).trans (h.block k hk)⟩
theorem bk_relFrom_yes (hr : relIn xs = true) (kw : KW Try.prog link.tWg Sh w) (hl : xs.length ≤ 1048576) (hx : RdB Sh w ao xs)
    (hq : ∀ w', BelowC w w' → KW Try.prog link.tWg Sh w' → WB Try.prog Q Sh ⟨c0.finish (.tuple #[relOf xs, .bool true]), cs, .running, none, none⟩ w') :
    WB Try.prog Q Sh (gor (Frame.enter Try.prog 36 #[.slice ao xs.length ca] .normal) [] (c0 :: cs)) w :=
  bk_relFrom kw hl hx fun w' h1 h2 => by rw [hr]; exact hq w' h1 h2
theorem bk_relFrom_no (hr : relIn xs = false) (kw : KW Try.prog link.tWg Sh w) (hl : xs.length ≤ 1048576) (hx : RdB Sh w ao xs)
    (hq : ∀ w', BelowC w w' → KW Try.prog link.tWg Sh w' → WB Try.prog Q Sh ⟨c0.finish (.tuple #[rel5 0 0 0 0 0, .bool false]), cs, .running, none, none⟩ w') :
    WB Try.prog Q Sh (gor (Frame.enter Try.prog 36 #[.slice ao xs.length ca] .normal) [] (c0 :: cs)) w :=
  bk_relFrom kw hl hx fun w' h1 h2 => by rw [hr]; exact hq w' h1 h2

end
end Go.Ph

namespace Go.Ph
open Go Go.Conc Go.ConcN Go.RowKit Go.Conc.Lib Go.ConcR.Gen Go.ConcN.Gen Go.Br Go.Proofs Go.Proofs.Ytgmjdkhegbdbjaa Go.Sort
set_option linter.unusedVariables false
set_option linter.unusedSimpArgs false
set_option linter.unusedSectionVars false
set_option maxRecDepth 100000


section
variable {Q : (Nat → Bool) → Goroutine → World → Prop} {Sh : Nat → Bool} {w w0 : World} {cs : List Frame} {c0 : Frame} {ao bo : Option Addr} {ca cb : Nat} {xs ys : List Int}

theorem run_neqI0 (a : Act) (o : Oper) (x y : Tmp) (i j : Int) (r : Bool) (t t' : TypeId) (hr : (i != j) = r) (ht : t = 3) (ho : o.op = .binOp .neq t (.tmp x) (.tmp y) t') (h : a.eval (.tmp x) = .int .i64 i) (h2 : a.eval (.tmp y) = .int .i64 j) (w : World) :
    (execOp a.eval o).run Try.prog w = .ok (.value (.bool r)) w ∧ (execOp a.eval o).events Try.prog w #[] = #[] := by
  subst hr; exact run_neqI a o x y i j t t' ht ho h h2 w
theorem run_gt0 (a : Act) (o : Oper) (x y : Operand) (i j : Int) (t t' : TypeId) (r : Bool) (hr : decide (j < i) = r) (ho : o.op = .binOp .gtr t x y t') (h : a.eval x = .int .i64 i) (h2 : a.eval y = .int .i64 j) (w : World) :
    (execOp a.eval o).run Try.prog w = .ok (.value (.bool r)) w ∧ (execOp a.eval o).events Try.prog w #[] = #[] := by
  subst hr; exact run_gtI a o x y i j t t' ho h h2 w
theorem run_neqB0 (a : Act) (o : Oper) (x y : Tmp) (b c : Bool) (r : Bool) (t t' : TypeId) (hr : (b != c) = r) (ht : t = 4) (ho : o.op = .binOp .neq t (.tmp x) (.tmp y) t') (h : a.eval (.tmp x) = .bool b) (h2 : a.eval (.tmp y) = .bool c) (w : World) :
    (execOp a.eval o).run Try.prog w = .ok (.value (.bool r)) w ∧ (execOp a.eval o).events Try.prog w #[] = #[] := by
  subst hr; exact run_neqB a o x y b c t t' ht ho h h2 w
end
end Go.Ph
