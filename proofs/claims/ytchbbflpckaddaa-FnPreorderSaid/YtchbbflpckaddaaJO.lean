/-
  EquQuotient, of the program and of the model.
-/
import Derived.Test.YtchbbflpckaddaaJL
namespace Go.Proofs.Ytchbbflpckaddaa
open Go.RowKit Go.Shelf
attribute [local go_sem] Oper.semAt_some

/-- the pairs of a relation put between the numbers of classes, one by one -/
def quoAcc (c : Nat) (ps : List Nat) {n : Nat} (pre : List (Fin n × Fin n)) : List Int := pre.foldl (fun zs p => addPair zs (cm ps (rt ps p.1.val)) (cm ps (rt ps p.2.val))) (List.replicate c 0)
theorem quoAcc_snoc (c : Nat) (ps : List Nat) {n : Nat} (pre : List (Fin n × Fin n)) (p : Fin n × Fin n) : quoAcc c ps (pre ++ [p]) = addPair (quoAcc c ps pre) (cm ps (rt ps p.1.val)) (cm ps (rt ps p.2.val)) := by
  unfold quoAcc
  rw [List.foldl_append]
  rfl
theorem quoAcc_len (c : Nat) (ps : List Nat) {n : Nat} (pre : List (Fin n × Fin n)) : (quoAcc c ps pre).length = c := by
  refine rev_ind (P := fun pre => (quoAcc c ps pre).length = c) (by simp [quoAcc]) ?_ pre
  intro l a ih
  rw [quoAcc_snoc, addPair_len, ih]
theorem quoAcc_put (c : Nat) (ps : List Nat) {n : Nat} (h : ∀ i : Fin n, cm ps (rt ps i.val) < c) (pre : List (Fin n × Fin n)) :
    quoAcc c ps pre = putAcc c (pre.map fun p => (⟨cm ps (rt ps p.1.val), h p.1⟩, ⟨cm ps (rt ps p.2.val), h p.2⟩)) := by
  refine rev_ind (P := fun pre => quoAcc c ps pre = putAcc c (pre.map fun p => (⟨cm ps (rt ps p.1.val), h p.1⟩, ⟨cm ps (rt ps p.2.val), h p.2⟩))) rfl ?_ pre
  intro l a ih
  rw [quoAcc_snoc, List.map_append, List.map_singleton, putAcc_snoc, ih]

theorem and_some : ∀ u y : Fin 16, ((bits .and .i64 (u.val : Int) (y.val : Int) != 0) = true ↔ ∃ j : Fin 4, hasB (u.val : Int) j.val = true ∧ hasB (y.val : Int) j.val = true) := by decide +kernel
theorem has_lt : ∀ n : Fin 5, ∀ y : Fin 16, y.val < 2 ^ n.val → ∀ j : Fin 4, hasB (y.val : Int) j.val = true → j.val < n.val := by decide +kernel

/-- whether the model relates two classes -/
def quoB (xs ys : List Int) (i k : Nat) : Bool := bits .and .i64 (imgTo xs (rowAt (clsL ys) i) xs.length) (rowAt (clsL ys) k) != 0
/-- the quotient, as the model makes it -/
def quoL (xs ys : List Int) : List Int := testR (clsL ys).length (quoB xs ys)
theorem quoL_len (xs ys : List Int) : (quoL xs ys).length = (clsL ys).length := testAcc_len _ _ _
theorem cls_plain {n : Nat} {ys : List Int} (E : Eqv n ys) : clAcc (linkS ys) n n = clsL ys ∧ (∀ i, i < n → cm (linkS ys) (rt (linkS ys) i) < cm (linkS ys) n) ∧ 1 ≤ (clsL ys).length ∧
    (∀ k i, k < (clsL ys).length → i < n → (hasB (rowAt (clsL ys) k) i = true ↔ cm (linkS ys) (rt (linkS ys) i) = k)) ∧ (∀ k, k < (clsL ys).length → ∃ y : Fin 16, rowAt (clsL ys) k = (y.val : Int) ∧ y.val < 2 ^ n) := by
  have h := cls_facts ys (enum_all E)
  obtain rfl := E.rl.len
  obtain ⟨f1, f2, f3, f4, f5⟩ := h
  refine ⟨f1, fun i hi => f2 ⟨i, hi⟩, f3, fun k i hk hi => ?_, fun k hk => f5 ⟨k, hk⟩⟩
  have := f4 ⟨k, hk⟩ ⟨i, hi⟩
  exact ⟨fun h => of_decide_eq_true (this.symm.trans h), fun h => this.trans (decide_eq_true h)⟩
/-- what joins classes, in plain words -/
theorem quo_eq {n : Nat} {xs ys : List Int} (R : Rl n xs) (E : Eqv n ys) : quoAcc (cm (linkS ys) n) (linkS ys) (pairsOf xs) = quoL xs ys ∧ cm (linkS ys) n = (clsL ys).length ∧ 1 ≤ cm (linkS ys) n := by
  obtain ⟨f1, f2, f3, f4, f5⟩ := cls_plain E
  have hc : cm (linkS ys) n = (clsL ys).length := by rw [← f1, clAcc_len]
  have h4 := R.four
  have hc4 : cm (linkS ys) n ≤ 4 := Nat.le_trans (cm_le _ _) h4
  have hql : quoL xs ys = testR (clsL ys).length (quoB xs ys) := rfl
  have hqb : ∀ i k, quoB xs ys i k = (bits .and .i64 (imgTo xs (rowAt (clsL ys) i) xs.length) (rowAt (clsL ys) k) != 0) := fun _ _ => rfl
  refine ⟨?_, hc, by omega⟩
  rw [hql, ← hc]
  have hc1 : 1 ≤ cm (linkS ys) n := by omega
  clear f1 hql
  obtain ⟨cls, hcls⟩ : ∃ l, clsL ys = l := ⟨_, rfl⟩
  obtain ⟨ps, hps⟩ : ∃ l, linkS ys = l := ⟨_, rfl⟩
  obtain ⟨q, hq⟩ : ∃ q, quoB xs ys = q := ⟨_, rfl⟩
  rw [hcls] at f3 f4 f5 hc hqb
  rw [hps] at f2 f4 hc hc4 hc1 ⊢
  rw [hq] at hqb ⊢
  clear hcls hps hq E
  obtain ⟨c, hcc⟩ : ∃ c, cm ps n = c := ⟨_, rfl⟩
  rw [hcc] at f2 hc hc4 hc1 ⊢
  clear hcc
  obtain rfl := R.len
  rw [quoAcc_put c ps (fun i => f2 i.val i.isLt)]
  obtain ⟨hP1, hP2⟩ := testR_fold hc1 hc4 ((pairsOf xs).map fun (p : Fin xs.length × Fin xs.length) => ((⟨cm ps (rt ps p.1.val), f2 p.1.val p.1.isLt⟩ : Fin c), (⟨cm ps (rt ps p.2.val), f2 p.2.val p.2.isLt⟩ : Fin c)))
  refine hP1.ext (Rl.test hc1 hc4 _) fun i k hi hk => bool_iff ?_
  rw [hP2 i k hi hk, hB_test hc1 hc4 _ i k hi hk, hqb]
  clear hP1 hP2
  obtain ⟨z, hz, hz2⟩ := f5 i (by omega)
  obtain ⟨y, hy, hy2⟩ := f5 k (by omega)
  have hzi := fun l (hl : l < xs.length) => f4 i l (by omega) hl
  have hyk := fun l (hl : l < xs.length) => f4 k l (by omega) hl
  rw [hz] at hzi
  rw [hy] at hyk
  obtain ⟨u, hu, hu2, hu3⟩ := img_row R z xs.length (Nat.le_refl _)
  rw [hz, hy, hu, and_some u y]
  constructor
  · rintro ⟨p, hp, h1, h3⟩
    obtain ⟨q, hq, rfl⟩ := List.mem_map.1 hp
    have q1 := q.1.isLt
    have q2 := q.2.isLt
    have hb := (mem_pairs h4 q).1 hq
    exact ⟨⟨q.2.val, by omega⟩, (hu3 q.2.val q2).2 ⟨q.1.val, q1, (hzi q.1.val q1).2 h1, hb⟩, (hyk q.2.val q2).2 h3⟩
  · rintro ⟨j, h1, h3⟩
    have hj : j.val < xs.length := has_lt ⟨xs.length, by omega⟩ y hy2 j h3
    obtain ⟨l, hl, a, b⟩ := (hu3 j.val hj).1 h1
    exact ⟨_, List.mem_map.2 ⟨(⟨l, hl⟩, ⟨j.val, hj⟩), (mem_pairs h4 _).2 b, rfl⟩, (hzi l hl).1 a, (hyk j.val hj).1 h3⟩


set_option maxRecDepth 100000 in
set_option maxHeartbeats 8000000 in
theorem quotientBy_in (xs ys : List Int) (w : World) (R : Rl xs.length xs) (S : Eqv xs.length ys) :
    CallsIn Fence.wide 6 Try.prog 77 #[relOf xs, relOf ys] w fun e w' => e = .returned (relOf (quoL xs ys)) ∧ Below w.heap.size w w' := by
  obtain ⟨hq1, hq2, hq3⟩ := quo_eq R S
  have hLk := fun wr => linkedBy_any S.rl wr
  have hNu := fun (B : Nat) (wr : World) (h : LinkW wr B xs.length (linkS ys)) hB => numbers_any (linkS_fo S.rl) R.four wr h hB
  have h1 := R.one
  have h4 := R.four
  have hys := S.rl.len
  have hy4 : ys.length ≤ 4 := by omega
  have hlt := (cls_plain S).2.1
  have hc4 : cm (linkS ys) xs.length ≤ 4 := Nat.le_trans (cm_le _ _) h4
  obtain ⟨c, hc⟩ : ∃ c, cm (linkS ys) xs.length = c := ⟨_, rfl⟩
  rw [hc] at hq1 hlt hc4 hNu
  have HQ := Lib.hid (And.intro hq1 (And.intro hLk (And.intro hNu (And.intro hlt hys))))
  clear hq1 hq2 hq3 hLk hNu R S hc hys hlt
  refine callsIn_of_wp_marks Try.func77 rfl trivial ?_ rfl
  simp only [Try.ntmps77, List.size_toArray, List.length_cons, List.length_nil, Nat.reduceAdd, Nat.reduceSub, Array.replicate_succ, Array.replicate_zero, List.push_toArray, List.append_toArray, List.nil_append, List.cons_append]
  have x1 := ((RelAt.new w xs).alloc (.cells #[.int .i64 ys.length, .int .i64 (rowAt ys 0), .int .i64 (rowAt ys 1), .int .i64 (rowAt ys 2), .int .i64 (rowAt ys 3)] 43)).alloc (.cells #[.int .i64 0, .int .i64 0, .int .i64 0, .int .i64 0, .int .i64 0] 43)
  have y1 := (RelAt.new (w.alloc (.cells #[.int .i64 xs.length, .int .i64 (rowAt xs 0), .int .i64 (rowAt xs 1), .int .i64 (rowAt xs 2), .int .i64 (rowAt xs 3)] 43)) ys).alloc (.cells #[.int .i64 0, .int .i64 0, .int .i64 0, .int .i64 0, .int .i64 0] 43)
  have z1 := rel_zero ((w.alloc (.cells #[.int .i64 xs.length, .int .i64 (rowAt xs 0), .int .i64 (rowAt xs 1), .int .i64 (rowAt xs 2), .int .i64 (rowAt xs 3)] 43)).alloc (.cells #[.int .i64 ys.length, .int .i64 (rowAt ys 0), .int .i64 (rowAt ys 1), .int .i64 (rowAt ys 2), .int .i64 (rowAt ys 3)] 43))
  have B1 := below_three w (.cells #[.int .i64 xs.length, .int .i64 (rowAt xs 0), .int .i64 (rowAt xs 1), .int .i64 (rowAt xs 2), .int .i64 (rowAt xs 3)] 43) (.cells #[.int .i64 ys.length, .int .i64 (rowAt ys 0), .int .i64 (rowAt ys 1), .int .i64 (rowAt ys 2), .int .i64 (rowAt ys 3)] 43) (.cells #[.int .i64 0, .int .i64 0, .int .i64 0, .int .i64 0, .int .i64 0] 43)
  simp only [World.size_alloc] at y1 z1
  have p0 := y1.cell0
  have p1 := y1.cell1
  have p2 := y1.cell2
  have p3 := y1.cell3
  have p4 := y1.cell4
  gi_wp2_with fail
  refine ⟨trivial, ?_⟩
  refine (callsIn_wide.2 (HQ.out.2.1 _)).mono ?_
  rintro e w3 ⟨rfl, hK, hs3, hb3⟩
  simp only [World.size_alloc] at hK hs3
  have x3 := x1.below hb3 x1.lt
  have z3 := z1.below hb3 z1.lt
  have B3 := B1.trans (hb3.mono B1.size)
  have hs3' : w.heap.size + 3 ≤ w3.heap.size := by have := hb3.size; simp at this; omega
  have HK := Lib.hid (And.intro hK hs3)
  clear hb3 B1 hK hs3 p0 p1 p2 p3 p4 x1 y1 z1
  gi_wp2_with fail
  refine ⟨trivial, ?_⟩
  refine (callsIn_wide.2 (HQ.out.2.2.1 _ _ HK.out.1 (by have := HK.out.2; omega))).mono ?_
  rintro e w4 ⟨rfl, ho4, hb4⟩
  have x4 := ((x3.below hb4 x3.lt).alloc (.cells #[.slice (some ⟨w3.heap.size, 0, none⟩) xs.length xs.length] 23)).alloc (.cells #[.int .i64 c, .int .i64 0, .int .i64 0, .int .i64 0, .int .i64 0] 43)
  have z4 := z3.below hb4 z3.lt
  have B4 := B3.trans (hb4.mono B3.size)
  have hg4 := (ho4.lt w3.heap.size rfl).2
  have hN : ∀ k, k < xs.length → w4.cell? ⟨w3.heap.size, k, none⟩ = some (.int .i64 ((cm (linkS ys) (rt (linkS ys) k) : Nat) : Int)) := fun k hk => by
    rw [ho4.cellAt k (by omega), List.getElem?_map, show (numL xs.length (linkS ys))[k]? = _ from numTo_get xs.length (linkS ys) xs.length k hk, if_pos hk]
    rfl
  have HN := Lib.hid hN
  clear hN
  have p0 := x4.cell0
  have p1 := x4.cell1
  have p2 := x4.cell2
  have p3 := x4.cell3
  have p4 := x4.cell4
  clear hb4 B3 ho4 x3 z3
  gi_wp2_with fail
  refine ⟨trivial, ?_⟩
  refine (callsIn_wide.2 (pairs_any xs _)).mono ?_
  rintro e w5 ⟨rfl, rfl⟩
  clear p0 p1 p2 p3 p4 x4
  gi_wp2
  have a1 := (zero_new (w4.alloc (.cells #[.slice (some ⟨w3.heap.size, 0, none⟩) xs.length xs.length] 23)) c).alloc (.cells #[.int .i64 xs.length, .int .i64 (rowAt xs 0), .int .i64 (rowAt xs 1), .int .i64 (rowAt xs 2), .int .i64 (rowAt xs 3)] 43)
  have b1 := ((Boxed.new w4 23 (.slice (some ⟨w3.heap.size, 0, none⟩) xs.length xs.length)).alloc (.cells #[.int .i64 c, .int .i64 0, .int .i64 0, .int .i64 0, .int .i64 0] 43)).alloc (.cells #[.int .i64 xs.length, .int .i64 (rowAt xs 0), .int .i64 (rowAt xs 1), .int .i64 (rowAt xs 2), .int .i64 (rowAt xs 3)] 43)
  have i1 := RelAt.new ((w4.alloc (.cells #[.slice (some ⟨w3.heap.size, 0, none⟩) xs.length xs.length] 23)).alloc (.cells #[.int .i64 c, .int .i64 0, .int .i64 0, .int .i64 0, .int .i64 0] 43)) xs
  have B0 := below_three w4 (.cells #[.slice (some ⟨w3.heap.size, 0, none⟩) xs.length xs.length] 23) (.cells #[.int .i64 c, .int .i64 0, .int .i64 0, .int .i64 0, .int .i64 0] 43) (.cells #[.int .i64 xs.length, .int .i64 (rowAt xs 0), .int .i64 (rowAt xs 1), .int .i64 (rowAt xs 2), .int .i64 (rowAt xs 3)] 43)
  have sz : w4.heap.size + 1 + 1 + 1 = (((w4.alloc (.cells #[.slice (some ⟨w3.heap.size, 0, none⟩) xs.length xs.length] 23)).alloc (.cells #[.int .i64 c, .int .i64 0, .int .i64 0, .int .i64 0, .int .i64 0] 43)).alloc (.cells #[.int .i64 xs.length, .int .i64 (rowAt xs 0), .int .i64 (rowAt xs 1), .int .i64 (rowAt xs 2), .int .i64 (rowAt xs 3)] 43)).heap.size := by simp
  simp only [World.size_alloc] at a1 i1
  obtain ⟨W0, hW0⟩ : ∃ W0, ((w4.alloc (.cells #[.slice (some ⟨w3.heap.size, 0, none⟩) xs.length xs.length] 23)).alloc (.cells #[.int .i64 c, .int .i64 0, .int .i64 0, .int .i64 0, .int .i64 0] 43)).alloc (.cells #[.int .i64 xs.length, .int .i64 (rowAt xs 0), .int .i64 (rowAt xs 1), .int .i64 (rowAt xs 2), .int .i64 (rowAt xs 3)] 43) = W0 := ⟨_, rfl⟩
  rw [hW0] at a1 b1 i1 B0 sz ⊢
  clear hW0
  refine wpIn_rangeFunc_ownF (w0 := W0) rfl (by omega) (gf := 117) (lb := #[.pointer (some ⟨w4.heap.size + 1 + 1, 0, none⟩)]) rfl trivial (enters_of Try.func117 (by kernel_rfl) rfl)
    (pairs_stops 5 (by omega) (w4.heap.size + 1 + 1) xs h1 h4 W0 i1) KeepB.t (KeepB.b (by omega)) (Below.refl _ _) (fun _ => rfl)
    (fun pre W => (RelAt W (w4.heap.size + 1) (quoAcc c (linkS ys) pre) ∧ Boxed W w4.heap.size 23 (.slice (some ⟨w3.heap.size, 0, none⟩) xs.length xs.length) ∧ RelAt W (w4.heap.size + 1 + 1) xs) ∧ Below w4.heap.size w4 W)
    (fun _ _ _ => False)
    (OwnFrom.and (Own.from (fun s A B row hs hg hr => ⟨relAt_own _ (quoAcc c (linkS ys)) s A B row hs.1 hg hr, boxed_own _ _ (fun _ => (.slice (some ⟨w3.heap.size, 0, none⟩) xs.length xs.length)) s A B row hs.2.1 hg hr, relAt_own _ (fun _ => xs) s A B row hs.2.2 hg hr⟩) _) (ownFrom_below (Nat.le_refl _) (by omega)))
    (fun _ _ _ _ _ hs _ _ => hs)
    ⟨⟨a1, b1, i1⟩, B0⟩
    (fun x => { tmps := #[relOf xs, relOf ys, .pointer (some ⟨w.heap.size, 0, none⟩), .pointer (some ⟨w.heap.size + 1, 0, none⟩), .pointer (some ⟨w.heap.size + 1 + 1, 0, none⟩), .pointer (some ⟨w4.heap.size, 0, none⟩), .int .i64 c, .pointer (some ⟨w4.heap.size + 1, 0, none⟩), .int .i64 (x.1.val : Int), .int .i64 (x.2.val : Int), .tuple #[.slice (some ⟨w3.heap.size, 0, none⟩) xs.length xs.length, .int .i64 c], relOf ys, .slice (some ⟨w.heap.size + 1 + 1 + 1 + 1, 0, none⟩) xs.length xs.length, .tuple #[.slice (some ⟨w3.heap.size, 0, none⟩) xs.length xs.length, .int .i64 c], .slice (some ⟨w3.heap.size, 0, none⟩) xs.length xs.length, .int .i64 c, .int .i64 c, .agg #[.int .i64 c, .int .i64 0, .int .i64 0, .int .i64 0, .int .i64 0], relOf xs, .func (.func 117) #[] #[.pointer (some ⟨w4.heap.size + 1 + 1, 0, none⟩)], .int .i64 (x.1.val : Int), .int .i64 (x.2.val : Int), undef, undef, undef, undef, undef, undef, undef, undef, undef, undef, undef], defers := [] }) ?assign ?body ?done ?stop
  case assign =>
    intro l x W K hK
    gi_wp2
    exact hK
  case body =>
    rintro l pre x W ⟨⟨ha, hz, hi⟩, hB⟩ hlen
    have hln := quoAcc_len c (linkS ys) pre
    have p0 := ha.cell0
    have p1 := ha.cell1
    have p2 := ha.cell2
    have p3 := ha.cell3
    have p4 := ha.cell4
    have pz := hz.cell
    have hx1 := x.1.isLt
    have hx2 := x.2.isLt
    have hc1 := (hB.cell (p := ⟨w3.heap.size, x.1.val, none⟩) hg4).trans (HN.out x.1.val hx1)
    have hc2 := (hB.cell (p := ⟨w3.heap.size, x.2.val, none⟩) hg4).trans (HN.out x.2.val hx2)
    have g2 := HQ.out.2.2.2.1 x.1.val hx1
    have g4 := HQ.out.2.2.2.1 x.2.val hx2
    have hj1 : ((x.1.val : Nat) : Int) < (xs.length : Int) := by omega
    have hj2 : ((x.2.val : Nat) : Int) < (xs.length : Int) := by omega
    have hmo : Try.prog.follows .mixedOrders = true := by kernel_rfl
    have HL := Lib.hid hln
    obtain ⟨m1, hm1⟩ : ∃ m, cm (linkS ys) (rt (linkS ys) x.1.val) = m := ⟨_, rfl⟩
    obtain ⟨m2, hm2⟩ : ∃ m, cm (linkS ys) (rt (linkS ys) x.2.val) = m := ⟨_, rfl⟩
    rw [hm1] at hc1 g2
    rw [hm2] at hc2 g4
    have HM := Lib.hid (And.intro hm1 hm2)
    clear hln hm1 hm2
    gi_wp2
    refine wpIn_region_loads_then 9 (by assumption) (by kernel_rfl) (fun _ => trivial) wide_round_calls rfl ?_
    simp only [List.take_succ_cons, List.take_zero, List.drop_succ_cons, List.drop_zero]
    repeat still_step
    refine wpStill_nil ?_
    gi_wp2_with fail
    refine ⟨trivial, ?_⟩
    refine (CallsIn.inRound l (callsIn_wide.2 (withPair_any (quoAcc c (linkS ys) pre) m1 m2 _ (by rw [HL.out]; exact hc4) (by rw [HL.out]; exact g2) (by omega)))).mono ?_
    rintro e w2 ⟨rfl, hb⟩
    have ha1 := RelAt.below (w := W.drew) ha hb ha.lt
    have q0 := ha1.cell0
    have q1 := ha1.cell1
    have q2 := ha1.cell2
    have q3 := ha1.cell3
    have q4 := ha1.cell4
    have f0 := ha1.free 0
    have f1 := ha1.free 1
    have f2 := ha1.free 2
    have f3 := ha1.free 3
    have f4 := ha1.free 4
    clear p0 p1 p2 p3 p4 pz hc1 hc2
    gi_wp2
    have hbs := hb.size
    have hbz := hB.size
    simp only [World.size_drew] at hbs
    have hput := ha1.put (addPair (quoAcc c (linkS ys) pre) m1 m2)
    have P5 := put5_all w2 (w4.heap.size + 1) (.int .i64 (addPair (quoAcc c (linkS ys) pre) m1 m2).length) (.int .i64 (rowAt (addPair (quoAcc c (linkS ys) pre) m1 m2) 0)) (.int .i64 (rowAt (addPair (quoAcc c (linkS ys) pre) m1 m2) 1)) (.int .i64 (rowAt (addPair (quoAcc c (linkS ys) pre) m1 m2) 2)) (.int .i64 (rowAt (addPair (quoAcc c (linkS ys) pre) m1 m2) 3))
    refine ⟨(KeepsOthers.drew W).trans ((keepsO_below hb).trans P5.1), (P5.2.1 _ (by omega)).trans (hb.block _ hi.lt), ⟨?_, ((P5.2.1 _ (by omega)).trans (hb.block _ hz.lt)).trans hz, ((P5.2.1 _ (by omega)).trans (hb.block _ hi.lt)).trans hi⟩, (hB.drew.trans (hb.mono hB.size)).trans (P5.2.2 _ (by omega))⟩
    rw [quoAcc_snoc, HM.out.1, HM.out.2]
    exact hput
  case done =>
    rintro D zs W hD rfl ⟨⟨ha, hz, hi⟩, hB⟩ hK
    have zz := z4.below hB z4.lt
    have hln := quoAcc_len c (linkS ys) (pairsOf xs)
    have p0 := ha.cell0
    rw [hln] at p0
    have p1 := ha.cell1
    have p2 := ha.cell2
    have p3 := ha.cell3
    have p4 := ha.cell4
    have q0 := zz.cell0
    have q1 := zz.cell1
    have q2 := zz.cell2
    have q3 := zz.cell3
    have q4 := zz.cell4
    have f0 := zz.free 0
    have f1 := zz.free 1
    have f2 := zz.free 2
    have f3 := zz.free 3
    have f4 := zz.free 4
    have HL := Lib.hid hln
    have hz4 := z4.lt
    clear hln
    gi_wp2
    have P5 := put5_all W (w.heap.size + 1 + 1) (.int .i64 c) (.int .i64 (rowAt (quoAcc c (linkS ys) (pairsOf xs)) 0)) (.int .i64 (rowAt (quoAcc c (linkS ys) (pairsOf xs)) 1)) (.int .i64 (rowAt (quoAcc c (linkS ys) (pairsOf xs)) 2)) (.int .i64 (rowAt (quoAcc c (linkS ys) (pairsOf xs)) 3))
    have hput := zz.put (quoAcc c (linkS ys) (pairsOf xs))
    rw [HL.out] at hput
    obtain ⟨W5, hW5⟩ : ∃ W5, (((((W.setCell ⟨w.heap.size + 1 + 1, 0, none⟩ (.int .i64 c)).setCell ⟨w.heap.size + 1 + 1, 1, none⟩ (.int .i64 (rowAt (quoAcc c (linkS ys) (pairsOf xs)) 0))).setCell ⟨w.heap.size + 1 + 1, 2, none⟩ (.int .i64 (rowAt (quoAcc c (linkS ys) (pairsOf xs)) 1))).setCell ⟨w.heap.size + 1 + 1, 3, none⟩ (.int .i64 (rowAt (quoAcc c (linkS ys) (pairsOf xs)) 2))).setCell ⟨w.heap.size + 1 + 1, 4, none⟩ (.int .i64 (rowAt (quoAcc c (linkS ys) (pairsOf xs)) 3))) = W5 := ⟨_, rfl⟩
    rw [hW5] at P5 hput ⊢
    have hK5 := P5.1.same D _ hK rfl
    refine ⟨by simp, .inl ⟨_, _, rfl, run_takeDeferred hK5, ?_⟩⟩
    have hr6 : RelAt (W5.putObj D (.deferred none)) (w.heap.size + 1 + 1) (quoAcc c (linkS ys) (pairsOf xs)) := (World.putObj_heap_other (by omega)).trans hput
    have c0 := hr6.cell0
    have c1 := hr6.cell1
    have c2 := hr6.cell2
    have c3 := hr6.cell3
    have c4 := hr6.cell4
    have hw4 := B4.size
    exact ⟨relOf (quoAcc c (linkS ys) (pairsOf xs)), by simp [results, Try.results77, go_sem, c0, c1, c2, c3, c4], by rw [HQ.out.1], ((B4.trans (hB.mono hw4)).trans (P5.2.2 _ (by omega))).trans (belowK_b (w := w) (Nat.le_refl _) W5 D _ _ (by omega) hK5 rfl rfl)⟩
  case stop =>
    rintro D c pre W _ _ h _
    exact h.elim
theorem quotientBy_any {xs ys : List Int} (R : Rl xs.length xs) (S : Eqv xs.length ys) (w : World) :
    Calls Try.prog 77 #[relOf xs, relOf ys] w fun e w' => e = .returned (relOf (quoL xs ys)) ∧ Below w.heap.size w w' := callsIn_wide.1 (quotientBy_in xs ys w R S)
end Go.Proofs.Ytchbbflpckaddaa

namespace Go.Proofs.Ytchbbflpckaddaa
open Go.RowKit

theorem ptb_orQ : ∀ z : Fin 16, ∀ j : Fin 4, bits .or .i64 (z.val : Int) (wrap64 (2 ^ j.val)) = bits .or .i64 (z.val : Int) (pt j.val) := by decide +kernel
theorem test16Q (n : Nat) (h4 : n ≤ 4) (f : Nat → Nat → Bool) (m i : Nat) : ∃ z : Fin 16, rowAt (testAcc n f m) i = (z.val : Int) := by
  rcases Nat.eq_zero_or_pos n with e | e
  · subst e
    refine ⟨0, ?_⟩
    have : testAcc 0 f m = [] := List.length_eq_zero_iff.1 (testAcc_len 0 f m)
    rw [this]
    rfl
  · obtain ⟨y, hy, _⟩ := (testR_fold e h4 (testTo n f m)).1.row i
    exact ⟨y, hy⟩
def quoOK (xs ys : List Int) : Bool := twoIn xs ys && equB ys

set_option maxHeartbeats 1000000 in
theorem implEquQuotient_any (ao bo : Option Addr) (ca cb : Nat) (xs ys : List Int) (w : World) (hl : xs.length ≤ 1048576) (hl2 : ys.length ≤ 1048576) (hx : Rd w ao xs) (hy : Rd w bo ys) :
    Calls Try.prog 41 #[.slice ao xs.length ca, .slice bo ys.length cb] w (Gave w (ifR (quoOK xs ys) (quoL xs ys)) (quoOK xs ys)) := by
  unfold quoOK
  cases h2 : twoIn xs ys with
  | false =>
    rw [Bool.false_and]
    have H1 := Lib.hid (two_no ao bo ca cb xs ys w hl hl2 hx hy h2)
    clear h2 hx hy
    go_enter Try.func41, Try.ntmps41
    go_wp2_with fail
    refine H1.out.mono ?_
    rintro e w1 ⟨rfl, hb⟩
    go_wp2
    go_ret2
    exact ⟨.slice none 0 0, rfl, World.ownsRow_nil _ _ _ _, (hb.alloc hb.size _).alloc (by have := hb.size; simp; omega) _⟩
  | true =>
    rw [Bool.true_and]
    obtain ⟨hrx, hry, hn⟩ := twoIn_yes h2
    have R := Rl.of hrx
    have S := Rl.of hry
    have hE := fun wr => isEquivalence_any S wr
    have H1 := Lib.hid (two_yes ao bo ca cb xs ys w hx hy hrx hry hn)
    have h4 := R.four
    have h4y := S.four
    cases hp : equB ys with
    | false =>
      rw [hp] at hE
      have HE := Lib.hid hE
      clear hE hp hx hy hrx hry hn R S h2
      go_enter Try.func41, Try.ntmps41
      go_wp2_with fail
      refine H1.out.mono ?_
      rintro e w1 ⟨rfl, hb⟩
      have s1 := RelAt.new (w1.alloc (.cells #[.int .i64 xs.length, .int .i64 (rowAt xs 0), .int .i64 (rowAt xs 1), .int .i64 (rowAt xs 2), .int .i64 (rowAt xs 3)] 43)) ys
      simp only [World.size_alloc] at s1
      have B1 := (hb.alloc hb.size (.cells #[.int .i64 xs.length, .int .i64 (rowAt xs 0), .int .i64 (rowAt xs 1), .int .i64 (rowAt xs 2), .int .i64 (rowAt xs 3)] 43)).alloc (by have := hb.size; simp; omega) (.cells #[.int .i64 ys.length, .int .i64 (rowAt ys 0), .int .i64 (rowAt ys 1), .int .i64 (rowAt ys 2), .int .i64 (rowAt ys 3)] 43)
      have r0 := s1.cell0
      have r1 := s1.cell1
      have r2 := s1.cell2
      have r3 := s1.cell3
      have r4 := s1.cell4
      clear s1 hb
      go_wp2_with fail
      refine (HE.out _).mono ?_
      rintro e w2 ⟨rfl, hb2⟩
      go_wp2
      go_ret2
      exact ⟨.slice none 0 0, rfl, World.ownsRow_nil _ _ _ _, B1.trans (hb2.mono B1.size)⟩
    | true =>
      have E := (equ_iff ys).1 hp
      rw [← hn] at E
      have hQ := fun wr => quotientBy_any R E wr
      have hq := quo_eq R E
      have hcl := cm_le (linkS ys) xs.length
      have hql := quoL_len xs ys
      have hL := fun wr => list_any (quoL xs ys) wr (by rw [hql]; omega)
      rw [hp] at hE
      have HE := Lib.hid hE
      have HQ := Lib.hid (And.intro hQ hL)
      clear hE hQ hL hp hx hy hrx hry hn R S h2 E hq hcl hql
      go_enter Try.func41, Try.ntmps41
      go_wp2_with fail
      refine H1.out.mono ?_
      rintro e w1 ⟨rfl, hb⟩
      have x1 := (RelAt.new w1 xs).alloc (.cells #[.int .i64 ys.length, .int .i64 (rowAt ys 0), .int .i64 (rowAt ys 1), .int .i64 (rowAt ys 2), .int .i64 (rowAt ys 3)] 43)
      have s1 := RelAt.new (w1.alloc (.cells #[.int .i64 xs.length, .int .i64 (rowAt xs 0), .int .i64 (rowAt xs 1), .int .i64 (rowAt xs 2), .int .i64 (rowAt xs 3)] 43)) ys
      simp only [World.size_alloc] at s1
      have B1 := (hb.alloc hb.size (.cells #[.int .i64 xs.length, .int .i64 (rowAt xs 0), .int .i64 (rowAt xs 1), .int .i64 (rowAt xs 2), .int .i64 (rowAt xs 3)] 43)).alloc (by have := hb.size; simp; omega) (.cells #[.int .i64 ys.length, .int .i64 (rowAt ys 0), .int .i64 (rowAt ys 1), .int .i64 (rowAt ys 2), .int .i64 (rowAt ys 3)] 43)
      have r0 := s1.cell0
      have r1 := s1.cell1
      have r2 := s1.cell2
      have r3 := s1.cell3
      have r4 := s1.cell4
      clear hb
      go_wp2_with fail
      refine (HE.out _).mono ?_
      rintro e w2 ⟨rfl, hb2⟩
      have x2 := x1.below hb2 x1.lt
      have s2 := s1.below hb2 s1.lt
      have B2 := B1.trans (hb2.mono B1.size)
      clear r0 r1 r2 r3 r4 x1 s1 hb2 B1
      have p0 := x2.cell0
      have p1 := x2.cell1
      have p2 := x2.cell2
      have p3 := x2.cell3
      have p4 := x2.cell4
      have r0 := s2.cell0
      have r1 := s2.cell1
      have r2 := s2.cell2
      have r3 := s2.cell3
      have r4 := s2.cell4
      go_wp2_with fail
      refine (HQ.out.1 _).mono ?_
      rintro e w3 ⟨rfl, hb3⟩
      have B3 := B2.trans (hb3.mono B2.size)
      clear p0 p1 p2 p3 p4 r0 r1 r2 r3 r4 hb3 B2 x2 s2
      go_wp2_with fail
      refine (HQ.out.2 _).mono ?_
      rintro e w4 ⟨v, rfl, ho, hb4⟩
      have hr := own_mono ho B3.size
      go_wp2
      go_ret2
      exact ⟨v, rfl, hr, B3.trans (hb4.mono B3.size)⟩

set_option maxRecDepth 20000 in
set_option maxHeartbeats 4000000 in
theorem specEquQuotient_any (ao bo : Option Addr) (ca cb : Nat) (xs ys : List Int) (w : World) (hl : xs.length ≤ 1048576) (hl2 : ys.length ≤ 1048576) (hx : Rd w ao xs) (hy : Rd w bo ys) :
    Calls Try.prog 80 #[.slice ao xs.length ca, .slice bo ys.length cb] w (Gave w (ifR (quoOK xs ys) (quoL xs ys)) (quoOK xs ys)) := by
  have h1 := l1Two_any ao bo ca cb xs ys w hl hl2 hx hy
  unfold quoOK
  cases h2 : twoIn xs ys with
  | false =>
    rw [Bool.false_and]
    rw [h2] at h1
    have H1 := Lib.hid h1
    clear h1 h2 hx hy
    go_enter Try.func80, Try.ntmps80
    go_wp2_with fail
    refine H1.out.mono ?_
    rintro e w1 ⟨rfl, hd⟩
    have hb := hd.below w.heap.size
    have hr := own_mono (row_lit0 w1) hb.size
    go_wp2
    go_ret2
    exact ⟨_, rfl, hr, hb.alloc hb.size _⟩
  | true =>
    rw [Bool.true_and]
    rw [h2] at h1
    obtain ⟨hrx, hry, hn⟩ := twoIn_yes h2
    have R := Rl.of hrx
    have S := Rl.of hry
    have h4 := R.four
    have h4y := S.four
    have hE := fun wr h => specEquIn_any bo cb ys wr hl2 h
    cases hp : equB ys with
    | false =>
      rw [hp] at hE
      have H1 := Lib.hid h1
      have HE := Lib.hid hE
      clear hE hp hrx hry hn R S h2 h1 hx
      go_enter Try.func80, Try.ntmps80
      go_wp2_with fail
      refine H1.out.mono ?_
      rintro e w1 ⟨rfl, hd⟩
      have hy1 := hd.rd hy
      have hb := hd.below w.heap.size
      clear hd hy
      go_wp2_with fail
      refine (HE.out _ hy1).mono ?_
      rintro e w2 ⟨rfl, hb2⟩
      have B2 := hb.trans (hb2.mono hb.size)
      have hr := own_mono (row_lit0 w2) B2.size
      go_wp2
      go_ret2
      exact ⟨_, rfl, hr, B2.alloc B2.size _⟩
    | true =>
      obtain ⟨i0, hi, hz0, hz1, hz2⟩ := info_parts Try.info3
      have E := (equ_iff ys).1 hp
      rw [← hn] at E
      obtain ⟨_, _, g3, _, g5⟩ := cls_plain E
      have hcle : (clsL ys).length ≤ ys.length := clsTo_le ys ys.length
      have hCl := fun wr h => l4Classes_any bo cb ys wr h4y h
      have hqf : ∀ i k, quoB xs ys i k = (bits .and .i64 (imgTo xs (rowAt (clsL ys) i) xs.length) (rowAt (clsL ys) k) != 0) := fun _ _ => rfl
      have hqd : quoL xs ys = testAcc (clsL ys).length (quoB xs ys) ((clsL ys).length * (clsL ys).length) := rfl
      rw [hp] at hE
      rw [hqd]
      obtain ⟨cls, hcls⟩ : ∃ l, clsL ys = l := ⟨_, rfl⟩
      obtain ⟨f, hff⟩ : ∃ q, quoB xs ys = q := ⟨_, rfl⟩
      rw [hcls] at g3 g5 hcle hCl hqf ⊢
      rw [hff] at hqf ⊢
      have hIm := fun (set : Nat) (wr : World) (hs : set < 16) h => l1Image_any ao ca xs set wr hs h4 h
      have hiu := fun z : Fin 16 => img_row R z xs.length (Nat.le_refl _)
      have H1 := Lib.hid h1
      have HE := Lib.hid hE
      have HC := Lib.hid (And.intro hCl (And.intro g5 (And.intro hqf (And.intro hIm hiu))))
      have hc4 : cls.length ≤ 4 := by omega
      clear hE hp hrx hry hn R S h2 h1 E g3 g5 hCl hqf hIm hcls hff hqd hiu hcle
      go_enter Try.func80, Try.ntmps80
      go_wp2_with fail
      refine H1.out.mono ?_
      rintro e w1 ⟨rfl, hd⟩
      have hx1 := hd.rd hx
      have hy1 := hd.rd hy
      have hb := hd.below w.heap.size
      clear hd hy hx
      go_wp2_with fail
      refine (HE.out _ hy1).mono ?_
      rintro e w2 ⟨rfl, hb2⟩
      have hx2 := hx1.below hb2
      have hy2 := hy1.below hb2
      have B2 := hb.trans (hb2.mono hb.size)
      clear hb hb2 hx1 hy1
      go_wp2_with fail
      refine (HC.out.1 _ hy2).mono ?_
      rintro e w3 ⟨v, rfl, ho3, hb3⟩
      obtain ⟨co, cc, rfl, hc3⟩ := row_rd ho3
      have hx3 := hx2.below hb3
      have B3 := B2.trans (hb3.mono B2.size)
      clear hb3 B2 ho3 hx2 hy2
      go_wp2_with (at_make; refine wpList_make_full _ rfl _ _ 23 rfl w3.heap.size 3 i0 (.int .i64 0) 1 Try.underlying23 hi hz0 hz1 _ _ _ _ cls.length rfl rfl rfl rfl ?c1 ?c2 ?c3 ?_)
      case c1 => rw [hz2]; omega
      case c2 => unfold maxLen; omega
      case c3 => exact Nat.le_refl _
      intro w4 hown hgrow
      have hB4 : Below w3.heap.size w3 w4 := (Below.refl _ _).grown hgrow (Nat.le_refl _) (by simp)
      rw [toList_madeCells_one] at hown
      have hown0 : w4.ownsRow w3.heap.size 3 1 (.slice (some ⟨w3.heap.size, 0, none⟩) cls.length cls.length) cls.length ((testAcc cls.length f 0).map (Value.int .i64)) := by
        rw [testAcc_zero]
        simpa using hown
      clear hgrow hown
      go_wp2
      go_loopw [8, 9, 10] (fun i _ _ wr => ∃ k : Nat, k ≤ cls.length ∧ i = .int .i64 k ∧ wr.ownsRow w3.heap.size 3 1 (.slice (some ⟨w3.heap.size, 0, none⟩) cls.length cls.length) cls.length ((testAcc cls.length f (k * cls.length)).map (Value.int .i64)) ∧ Below w3.heap.size w3 wr)
        (fun i _ _ _ => cls.length - (intOf i).toNat)
      case atStart => exact ⟨0, Nat.zero_le _, rfl, by rw [Nat.zero_mul]; exact hown0, hB4⟩
      case round =>
        clear hown0 hB4
        obtain ⟨i, hi2, rfl, ho, hB⟩ := hrel
        obtain ⟨wo, rfl⟩ : ∃ wo : World, wo = wr := ⟨_, rfl⟩
        by_cases hlt : i < cls.length
        · obtain ⟨b, off, x, hxk, rfl, hbl, hc1⟩ := (hc3.below hB).get i hlt
          obtain ⟨z, hz, hzn⟩ := HC.out.2.1 i hlt
          obtain ⟨u, hu, _, _⟩ := HC.out.2.2.2.2 z
          have hxe : x = (z.val : Int) := by
            have := rowAt_get hlt
            rw [hxk, hz] at this
            simpa using this
          rw [hxe] at hc1
          have hi1 : ((i : Nat) : Int) < (cls.length : Int) := by omega
          have hIm := HC.out.2.2.2.1 z.val wo z.isLt (hx3.below hB)
          rw [hu] at hIm
          have HI := Lib.hid hIm
          have HZ := Lib.hid (And.intro hz hu)
          clear hz hu hxe hxk hIm
          go_wp2_with fail
          refine HI.out.mono ?_
          rintro e wi ⟨rfl, hdi⟩
          have hoi := hdi.row ho
          have hBi := hB.trans (hdi.below w3.heap.size)
          clear ho hB hc1 hbl hdi HI
          go_wp2
          go_loopw [10] (fun j wr => ∃ k : Nat, k ≤ cls.length ∧ j = .int .i64 k ∧ wr.ownsRow w3.heap.size 3 1 (.slice (some ⟨w3.heap.size, 0, none⟩) cls.length cls.length) cls.length ((testAcc cls.length f (i * cls.length + k)).map (Value.int .i64)) ∧ Below w3.heap.size w3 wr)
            (fun j _ => cls.length - (intOf j).toNat)
          case atStart => exact ⟨0, Nat.zero_le _, rfl, hoi, hBi⟩
          case round =>
            clear hoi hBi
            obtain ⟨j, hj, rfl, ho, hB⟩ := hrel
            by_cases hlj : j < cls.length
            · obtain ⟨b', off', y, hyk, hbo, hbl', hc2⟩ := (hc3.below hB).get j hlj
              simp only [Option.some.injEq, Addr.mk.injEq, and_true] at hbo
              obtain ⟨rfl, rfl⟩ := hbo
              have hye : rowAt cls j = y := by have := rowAt_get hlj; rw [hyk] at this; exact (Option.some.inj this).symm
              have hj1 : ((j : Nat) : Int) < (cls.length : Int) := by omega
              have hst := testAcc_step cls.length hc4 f i j hlt hlj
              have hfe := HC.out.2.2.1 i j
              rw [HZ.out.1, HZ.out.2, hye] at hfe
              cases e : (bits .and .i64 (u.val : Int) y != 0) with
              | true =>
                obtain ⟨t, ht⟩ := test16Q cls.length hc4 f (i * cls.length + j) i
                have hc5 := ho.cellAt i (by omega)
                have hf5 := ho.frozenAt i
                have htk : ((testAcc cls.length f (i * cls.length + j)).map (Value.int .i64))[i]? = some (.int .i64 (t.val : Int)) := by
                  rw [List.getElem?_map, rowAt_get (by rw [testAcc_len]; exact hlt), ht]
                  rfl
                rw [htk] at hc5
                rw [hfe, e, if_pos rfl] at hst
                unfold addPair at hst
                rw [ht, ← ptb_orQ t ⟨j, by omega⟩] at hst
                have hs2 := (ho.stored i (.int .i64 (bits .or .i64 (t.val : Int) (wrap64 (2 ^ j))))).1
                rw [← List.map_set, ← hst] at hs2
                have HO := Lib.hid (And.intro hs2 hB)
                clear hst hfe htk ht hs2 ho hB hyk hye
                go_wp2
                go_region
                all_goals
                  go_wp2
                  go_roundw
                  case rel => exact ⟨j + 1, by omega, by go_num, HO.out.1.drew, HO.out.2.drew.setCell (p := ⟨w3.heap.size, i, none⟩) (Nat.le_refl _) _⟩
                  case measure => simp [intOf]; omega
              | false =>
                rw [hfe, e, if_neg (by simp)] at hst
                have HST := Lib.hid (And.intro hst (And.intro ho hB))
                clear hst hfe hyk hye ho hB
                go_wp2
                go_roundw
                case rel => exact ⟨j + 1, by omega, by go_num, by rw [HST.out.1]; exact HST.out.2.1, HST.out.2.2⟩
                case measure => simp [intOf]; omega
            · obtain rfl : j = cls.length := by omega
              go_wp2
              go_roundw
              case rel => exact ⟨i + 1, by omega, by go_num, by rw [Nat.succ_mul]; exact ho, hB⟩
              case measure => simp [intOf]; omega
        · obtain rfl : i = cls.length := by omega
          go_wp2
          go_ret2
          exact ⟨_, rfl, by rw [show (ifR true (testAcc cls.length f (cls.length * cls.length))).length = cls.length from testAcc_len _ _ _]; exact own_mono ho B3.size, B3.trans (hB.mono B3.size)⟩
end Go.Proofs.Ytchbbflpckaddaa
