/-
  The program's rank; for lists of at most 2^20 numbers.
-/
import Derived.Test.YthdnpcpimggjnaaGreatDoorQP
import Derived.Test.YthdnpcpimggjnaaGreatDoorEG
import Derived.Test.YthdnpcpimggjnaaGreatDoorRC
import Derived.Test.YthdnpcpimggjnaaGreatDoorDD
namespace Go.Proofs.YthdnpcpimggjnaaGreatDoor
open Go.RowKit Go.Shelf
attribute [local go_sem] Oper.semAt_some

theorem keepsFrom_below {B : Nat} {W W' : World} (h : Below W.heap.size W W') : KeepsFrom B W W' := ⟨h.size, fun k _ _ hk _ => (h.block k (Array.getElem?_eq_some_iff.1 hk).1).trans hk⟩
theorem gC_mem {F x : List (Int × Int)} {size : Nat} {pre rest : List (List (Int × Int))} (h : gC F size [] 0 = pre ++ x :: rest) : x.length = size ∧ ∀ r, r ∈ x → r ∈ F := by
  have hx : x ∈ gC F size [] 0 := by rw [h]; simp
  obtain ⟨s, hs, hl, hF⟩ := gC_sub _ _ _ _ _ hx
  rw [List.nil_append] at hs
  rw [hs]
  exact ⟨hl, hF⟩
set_option maxRecDepth 100000 in
set_option maxHeartbeats 8000000 in
theorem hasCover_in {xs : List Int} (Rx : Rl xs.length xs) {F : List (Int × Int)} (hF : ∀ r, r ∈ F → isRect xs.length r) (hN2 : F.length ≤ 1000) (R cap size : Nat) (hz : size ≤ 1000) (w : World) (hrd : PrRd w (some ⟨R, 0, none⟩) F) :
    CallsIn Fence.wide 7 Tryz.prog 100 #[relOf xs, .slice (some ⟨R, 0, none⟩) F.length cap, .int .i64 size] w fun e w' => ∃ b : Bool, e = .returned (.bool b) ∧ (b = true ↔ PC xs.length F size xs) ∧ Below w.heap.size w w' := by
  have hmo : Tryz.prog.follows .mixedOrders = true := by kernel_rfl
  obtain ⟨N, hN⟩ : ∃ N, F.length = N := ⟨_, rfl⟩
  have x0 := (RelAt.new w xs).alloc (.cells #[.bool false] 4)
  have b0 := Boxed.new (w.alloc (.cells #[.int .i64 xs.length, .int .i64 (rowAt xs 0), .int .i64 (rowAt xs 1), .int .i64 (rowAt xs 2), .int .i64 (rowAt xs 3)] 36)) 4 (.bool false)
  have B0 := below_two w (.cells #[.int .i64 xs.length, .int .i64 (rowAt xs 0), .int .i64 (rowAt xs 1), .int .i64 (rowAt xs 2), .int .i64 (rowAt xs 3)] 36) (.cells #[.bool false] 4)
  rw [World.size_alloc] at b0
  have H := Lib.hid (And.intro Rx (And.intro hF (And.intro hrd (And.intro x0 (And.intro b0 B0)))))
  have h1 := Rx.one
  have h4 := Rx.four
  clear Rx hF hrd
  rw [hN]
  refine callsIn_of_wp_marks Tryz.func100 rfl trivial ?_ rfl
  simp only [Tryz.ntmps100, List.size_toArray, List.length_cons, List.length_nil, Nat.reduceAdd, Nat.reduceSub, Array.replicate_succ, Array.replicate_zero, List.push_toArray, List.append_toArray, List.nil_append, List.cons_append]
  gi_wp2_with fail
  refine ⟨trivial, ?_⟩
  refine (callsIn_wide.2 (triedCovers_any R N cap size _)).mono ?_
  rintro e w1 ⟨rfl, rfl⟩
  gi_wp2
  have x2 := (x0.alloc (.cells #[.slice (some ⟨R, 0, none⟩) N cap] 93)).alloc (.cells #[.int .i64 size] 3)
  have c2 := (Boxed.alloc b0 (.cells #[.slice (some ⟨R, 0, none⟩) N cap] 93)).alloc (.cells #[.int .i64 size] 3)
  have r2 := (Boxed.new ((w.alloc (.cells #[.int .i64 xs.length, .int .i64 (rowAt xs 0), .int .i64 (rowAt xs 1), .int .i64 (rowAt xs 2), .int .i64 (rowAt xs 3)] 36)).alloc (.cells #[.bool false] 4)) 93 (.slice (some ⟨R, 0, none⟩) N cap)).alloc (.cells #[.int .i64 size] 3)
  have s2 := Boxed.new (((w.alloc (.cells #[.int .i64 xs.length, .int .i64 (rowAt xs 0), .int .i64 (rowAt xs 1), .int .i64 (rowAt xs 2), .int .i64 (rowAt xs 3)] 36)).alloc (.cells #[.bool false] 4)).alloc (.cells #[.slice (some ⟨R, 0, none⟩) N cap] 93)) 3 (.int .i64 size)
  have B2 := (B0.alloc (by simp; omega) (.cells #[.slice (some ⟨R, 0, none⟩) N cap] 93)).alloc (by simp; omega) (.cells #[.int .i64 size] 3)
  have z2 : ((((w.alloc (.cells #[.int .i64 xs.length, .int .i64 (rowAt xs 0), .int .i64 (rowAt xs 1), .int .i64 (rowAt xs 2), .int .i64 (rowAt xs 3)] 36)).alloc (.cells #[.bool false] 4)).alloc (.cells #[.slice (some ⟨R, 0, none⟩) N cap] 93)).alloc (.cells #[.int .i64 size] 3)).heap.size = w.heap.size + 4 := by simp
  simp only [World.size_alloc] at r2 s2
  obtain ⟨W0, hW0⟩ : ∃ W0, ((((w.alloc (.cells #[.int .i64 xs.length, .int .i64 (rowAt xs 0), .int .i64 (rowAt xs 1), .int .i64 (rowAt xs 2), .int .i64 (rowAt xs 3)] 36)).alloc (.cells #[.bool false] 4)).alloc (.cells #[.slice (some ⟨R, 0, none⟩) N cap] 93)).alloc (.cells #[.int .i64 size] 3)) = W0 := ⟨_, rfl⟩
  rw [hW0] at x2 c2 r2 s2 B2 z2 ⊢
  have f2 := H.out.2.2.1.below B2
  rw [← hN] at r2
  have hX : w.heap.size + 1 < W0.heap.size := by omega
  have hs2 : w.heap.size ≤ W0.heap.size := by omega
  clear hW0 x0 b0 B0
  refine range_covers (X := w.heap.size + 1) (Br := w.heap.size + 1 + 1) (Bs := w.heap.size + 1 + 1 + 1) (R := R) (cap := cap) (size := size) (F := F) (cs := gC F size [] 0) rfl hX (by omega) r2 s2 f2 hN2 rfl
    (fun p W => RelAt W w.heap.size xs ∧ Boxed W (w.heap.size + 1) 4 (.bool false) ∧ (∀ x, x ∈ p → unionL xs.length x ≠ xs) ∧ Below w.heap.size w W)
    (fun c _ W => c = .ret ∧ Boxed W (w.heap.size + 1) 4 (.bool true) ∧ PC xs.length F size xs ∧ Below w.heap.size w W)
    (fun p A B h hb => ⟨h.1.below hb (by omega), (hb.block _ hX).trans h.2.1, h.2.2.1, h.2.2.2.trans (hb.mono hs2)⟩)
    (fun c p A l o o' h hl _ _ => ⟨h.1, (World.putObj_heap_other (by omega)).trans h.2.1, h.2.2.1, h.2.2.2.trans (below_put o' (by omega))⟩)
    ⟨x2, c2, fun x hx => absurd hx (by simp), B2⟩
    (fun vx => { tmps := #[relOf xs, .slice (some ⟨R, 0, none⟩) N cap, .int .i64 size, .pointer (some ⟨w.heap.size, 0, none⟩), undef, undef, .pointer (some ⟨w.heap.size + 1, 0, none⟩), vx, undef, undef, undef, .slice (some ⟨R, 0, none⟩) N cap, .int .i64 size, .func (.func 237) #[] #[.pointer (some ⟨w.heap.size + 1 + 1, 0, none⟩), .pointer (some ⟨w.heap.size + 1 + 1 + 1, 0, none⟩)], vx, undef, undef, undef, undef, undef, undef, undef, undef, undef, undef, undef, undef, undef, undef, undef, undef], defers := [] })
    ?assign ?body ?done ?stop
  case assign =>
    intro l vx W K hK
    gi_wp2
    exact hK
  case body =>
    rintro l pre x P W ⟨rest, hr⟩ ⟨hx, hb, hno, hB⟩ hxr
    obtain ⟨hxz, hm⟩ := gC_mem hr
    have hpc : unionL xs.length x = xs → PC xs.length F size xs := fun e => ⟨x, by rw [hr]; simp, e⟩
    have hlen : x.length ≤ 1000 := by omega
    clear hxz
    have p0 := hx.cell0
    have hxl := hx.lt
    have hbl := hb.lt
    have z1 := zero_new W xs.length
    have HX := Lib.hid (And.intro hx (And.intro hb (And.intro hno (And.intro hB (And.intro hm (And.intro hpc hxr))))))
    have a1 := hx.alloc (.cells #[.int .i64 xs.length, .int .i64 0, .int .i64 0, .int .i64 0, .int .i64 0] 36)
    have B1 := below_one W (.cells #[.int .i64 xs.length, .int .i64 0, .int .i64 0, .int .i64 0, .int .i64 0] 36)
    clear hx hb hno hB hm hpc hxr hr x2 c2 r2 s2 B2 f2
    gi_wp2
    gi_loopw [20, 10] (fun i _ wr => ∃ k : Nat, k ≤ x.length ∧ i = .int .i64 k ∧ RelAt wr W.heap.size (unionL xs.length (x.take k)) ∧ RelAt wr w.heap.size xs ∧ Below W.heap.size W wr)
      (fun i _ _ => x.length - (intOf i).toNat)
    case atStart => exact ⟨0, Nat.zero_le _, rfl, z1, a1, B1⟩
    case round =>
      clear z1 a1 B1 p0
      obtain ⟨k, hk, rfl, hz, hx, hB⟩ := hrel
      have hisr : ∀ r, r ∈ x → isRect xs.length r := fun r hr => H.out.2.1 r (HX.out.2.2.2.2.1 r hr)
      have hZl : (unionL xs.length (x.take k)).length = xs.length := (union_rl h1 h4 fun r hr => hisr r (List.mem_of_mem_take hr)).len
      obtain ⟨Z, hZ⟩ : ∃ Z, unionL xs.length (x.take k) = Z := ⟨_, rfl⟩
      rw [hZ] at hz hZl
      by_cases hlt : k < x.length
      · obtain ⟨p, hp⟩ : ∃ p, x[k]? = some p := ⟨_, List.getElem?_eq_getElem hlt⟩
        obtain ⟨s, t, rfl, _, _⟩ := hisr p (List.mem_of_getElem? hp)
        obtain ⟨P', hPe, _, c0, c1⟩ := (HX.out.2.2.2.2.2.2.below hB) k _ hp
        cases hPe
        have hst : unionL xs.length (x.take (k + 1)) = rectTo Z (s.val : Int) (t.val : Int) xs.length := by
          rw [List.take_add_one, hp]
          show unionL xs.length (x.take k ++ [_]) = _
          rw [union_snoc, hZ]
        have hwp := fun W => withRectangle_any Z (s.val : Int) (t.val : Int) W (by omega)
        have hrl : relOf Z = .agg #[.int .i64 xs.length, .int .i64 (rowAt Z 0), .int .i64 (rowAt Z 1), .int .i64 (rowAt Z 2), .int .i64 (rowAt Z 3)] := by rw [← hZl]
        rw [hrl, hZl] at hwp
        have HST := Lib.hid (And.intro hst hwp)
        have hi1 : (k : Int) < (x.length : Int) := by omega
        have z2 := hz.alloc (.cells #[.int .i64 (s.val : Int), .int .i64 (t.val : Int)] 137)
        have x2 := hx.alloc (.cells #[.int .i64 (s.val : Int), .int .i64 (t.val : Int)] 137)
        have B2 := hB.alloc hB.size (.cells #[.int .i64 (s.val : Int), .int .i64 (t.val : Int)] 137)
        have p0 := z2.cell0
        have p1 := z2.cell1
        have p2 := z2.cell2
        have p3 := z2.cell3
        have p4 := z2.cell4
        rw [hZl] at p0
        have HQ := Lib.hid (And.intro trivial (And.intro hlen (And.intro hN2 (And.intro hX (And.intro hs2 (And.intro h4 (And.intro hxl (And.intro hbl (And.intro hN (And.intro hk (And.intro hlt (And.intro z2.lt h1))))))))))))
        clear hst hwp hisr hZ hp hz hx hB hlen hN2 hX hs2 h4 hxl hbl hN hk hlt h1
        gi_wp2_with fail
        refine ⟨trivial, ?_⟩
        refine (CallsIn.inRound l (callsIn_wide.2 (HST.out.2 _))).mono ?_
        rintro e w3 ⟨rfl, hb⟩
        have z3 := z2.below hb z2.lt
        have x3 := x2.below hb x2.lt
        have B3 := B2.trans (hb.mono B2.size)
        clear z2 x2 B2 hb p0 p1 p2 p3 p4 c0 c1
        obtain ⟨Y, hY⟩ : ∃ Y, rectTo Z (s.val : Int) (t.val : Int) xs.length = Y := ⟨_, rfl⟩
        rw [hY] at HST ⊢
        have q0 := z3.cell0
        have q1 := z3.cell1
        have q2 := z3.cell2
        have q3 := z3.cell3
        have q4 := z3.cell4
        have f0 := z3.free 0
        have f1 := z3.free 1
        have f2 := z3.free 2
        have f3 := z3.free 3
        have f4 := z3.free 4
        have HPT := Lib.hid (z3.put Y)
        have hxne : w.heap.size ≠ W.heap.size := by have := HQ.out.2.2.2.2.2.2.1; omega
        have bb := fun (V : World) (i : Nat) (v : Value) (h : Below W.heap.size W V) => h.setCell (p := ⟨W.heap.size, i, none⟩) (Nat.le_refl _) v
        have rr := fun (V : World) (i : Nat) (v : Value) (h : RelAt V w.heap.size xs) => h.other (p := ⟨W.heap.size, i, none⟩) hxne v
        have HBB := Lib.hid (And.intro bb (And.intro rr (And.intro B3 x3)))
        clear bb rr B3 x3 z3 hY
        have hl1 := HQ.out.2.1
        have hl2 := HQ.out.2.2.2.2.2.2.2.2.2.2.1
        gi_wp2
        go_roundw
        case rel =>
          exact ⟨k + 1, HQ.out.2.2.2.2.2.2.2.2.2.2.1, by go_num, by rw [HST.out.1]; exact HPT.out, HBB.out.2.1 _ _ _ (HBB.out.2.1 _ _ _ (HBB.out.2.1 _ _ _ (HBB.out.2.1 _ _ _ (HBB.out.2.1 _ _ _ HBB.out.2.2.2)))), HBB.out.1 _ _ _ (HBB.out.1 _ _ _ (HBB.out.1 _ _ _ (HBB.out.1 _ _ _ (HBB.out.1 _ _ _ HBB.out.2.2.1))))⟩
        case measure => simp [intOf]; omega
      · obtain rfl : k = x.length := by omega
        rw [List.take_length] at hZ
        have RZ : Rl xs.length Z := hZ ▸ union_rl h1 h4 hisr
        have hE : ∀ s, decide (Z = xs) = s → ∀ w, Sem.run Tryz.prog (Op.equalIn 9999 34 (.agg #[.int .i64 (rowAt Z 0), .int .i64 (rowAt Z 1), .int .i64 (rowAt Z 2), .int .i64 (rowAt Z 3)]) (.agg #[.int .i64 (rowAt xs 0), .int .i64 (rowAt xs 1), .int .i64 (rowAt xs 2), .int .i64 (rowAt xs 3)])) w = .ok s w :=
          fun s hs w => (eqRowsD 9997 (rowAt Z 0) (rowAt Z 1) (rowAt Z 2) (rowAt Z 3) (rowAt xs 0) (rowAt xs 1) (rowAt xs 2) (rowAt xs 3) w).trans (by rw [rows_eq RZ H.out.1, hs])
        have en : ((xs.length : Int) == (xs.length : Int)) = true := by simp
        have p0 := hz.cell0
        rw [hZl] at p0
        have p1 := hz.cell1
        have p2 := hz.cell2
        have p3 := hz.cell3
        have p4 := hz.cell4
        have q0 := hx.cell0
        have q1 := hx.cell1
        have q2 := hx.cell2
        have q3 := hx.cell3
        have q4 := hx.cell4
        have hi1 : ¬ (x.length : Int) < (x.length : Int) := by omega
        have cX : Boxed wr (w.heap.size + 1) 4 (.bool false) := (hB.block _ hbl).trans HX.out.2.1
        have cX0 := cX.cell
        have fX0 := cX.frozen
        have HZ := Lib.hid (And.intro hZ (And.intro hB (And.intro hx cX)))
        cases hs : decide (Z = xs) with
        | false =>
          have hE2 := hE false hs
          have HN := Lib.hid (of_decide_eq_false hs)
          have HQ := Lib.hid (And.intro trivial (And.intro hlen (And.intro hN2 (And.intro hX (And.intro hs2 (And.intro h4 (And.intro hxl (And.intro hbl (And.intro hN h1)))))))))
          clear hE hs hZ hz hx hB RZ cX hlen hN2 hX hs2 h4 hxl hbl hN h1
          gi_wp2
          refine ⟨KeepX.below HZ.out.2.1, keepsFrom_below HZ.out.2.1, HZ.out.2.2.1, HZ.out.2.2.2, fun y hy => ?_, HX.out.2.2.2.1.trans (HZ.out.2.1.mono (Nat.le_of_lt HQ.out.2.2.2.2.2.2.1))⟩
          rcases hy with hy | rfl
          · exact HX.out.2.2.1 y hy
          · rw [HZ.out.1]
            exact HN.out
        | true =>
          have hE2 := hE true hs
          have HN := Lib.hid (of_decide_eq_true hs)
          have HQ := Lib.hid (And.intro trivial (And.intro hlen (And.intro hN2 (And.intro hX (And.intro hs2 (And.intro h4 (And.intro hxl (And.intro hbl (And.intro hN h1)))))))))
          clear hE hs hZ hz hx hB RZ cX hlen hN2 hX hs2 h4 hxl hbl hN h1
          gi_wp2
          refine ⟨(KeepX.below HZ.out.2.1).trans (keepX_set _ _ _ _), (keepsFrom_below HZ.out.2.1).trans ((KeepsOthers.setCell _ _ _).from _), HZ.out.2.2.2.set _, HX.out.2.2.2.2.2.1 (by rw [HZ.out.1]; exact HN.out), (HX.out.2.2.2.1.trans (HZ.out.2.1.mono (Nat.le_of_lt HQ.out.2.2.2.2.2.2.1))).setCell (p := ⟨w.heap.size + 1, 0, none⟩) (by show w.heap.size ≤ w.heap.size + 1; omega) _⟩
  case done =>
    rintro D W hD ⟨hx, hb, hno, hB⟩ hK
    have cX0 := hb.cell
    have fX0 := hb.frozen
    have HB := Lib.hid (And.intro hno (And.intro hB hb))
    clear hx hb hno hB x2 c2 r2 s2 B2 f2
    gi_wp2
    have hK5 := (KeepsOthers.setCell W ⟨w.heap.size + 1, 0, none⟩ (.bool false)).same D _ hK rfl
    refine ⟨by simp, .inl ⟨_, _, rfl, run_takeDeferred hK5, ?_⟩⟩
    have hb6 : Boxed ((W.setCell ⟨w.heap.size + 1, 0, none⟩ (.bool false)).putObj D (.deferred none)) (w.heap.size + 1) 4 (.bool false) := (World.putObj_heap_other (by omega)).trans (HB.out.2.2.set _)
    have c0 := hb6.cell
    exact ⟨.bool false, by simp [results, Tryz.results100, go_sem, c0], false, rfl, ⟨fun h => Bool.noConfusion h, fun ⟨x, hx, hu⟩ => absurd hu (HB.out.1 x hx)⟩, (HB.out.2.1.setCell (p := ⟨w.heap.size + 1, 0, none⟩) (by show w.heap.size ≤ w.heap.size + 1; omega) _).trans (below_put _ (by omega))⟩
  case stop =>
    rintro D c p W hD ⟨rfl, hb, hpc, hB⟩ hK
    have HB := Lib.hid (And.intro hpc (And.intro hB hb))
    clear hb hpc hB x2 c2 r2 s2 B2 f2
    gi_wp2
    refine ⟨by simp, .inl ⟨_, _, rfl, run_takeDeferred hK, ?_⟩⟩
    have hb6 : Boxed (W.putObj D (.deferred none)) (w.heap.size + 1) 4 (.bool true) := (World.putObj_heap_other (by omega)).trans HB.out.2.2
    have c0 := hb6.cell
    exact ⟨.bool true, by simp [results, Tryz.results100, go_sem, c0], true, rfl, ⟨fun _ => HB.out.1, fun _ => rfl⟩, HB.out.2.1.trans (below_put _ (by omega))⟩
end Go.Proofs.YthdnpcpimggjnaaGreatDoor

namespace Go.Proofs.YthdnpcpimggjnaaGreatDoor
open Go.RowKit

theorem b_bitz : ∀ z : Fin 16, ∀ k : Fin 4, (bits .and .i64 ((z.val : Int) / 2 ^ k.val) 1 == 0) = !hasB (z.val : Int) k.val := by decide +kernel
/-- rectangles as lists -/
def FL (F : List (Int × Int)) : List (List Int) := F.map fun r => [r.1, r.2]
theorem FL_len (F : List (Int × Int)) : (FL F).length = F.length := List.length_map _
theorem FL_at {F : List (Int × Int)} {k : Nat} {r : Int × Int} (h : F[k]? = some r) : (FL F)[k]? = some [r.1, r.2] := by
  unfold FL
  rw [List.getElem?_map, h]
  rfl
/-- what the search keeps -/
def NoYet (n : Nat) (F : List (Int × Int)) (m : Nat) (zs : List Int) (q p d : Nat) : Prop := ∀ t r, t < d → F[t]? = some r → hasR r q p = true → ¬ CV n F m (minR n zs r)
theorem noYet_step {n : Nat} {F : List (Int × Int)} {m : Nat} {zs : List Int} {q p d : Nat} (h : NoYet n F m zs q p d) {g : Int × Int} (hg : F[d]? = some g) (hn : hasR g q p = true → ¬ CV n F m (minR n zs g)) : NoYet n F m zs q p (d + 1) := by
  intro t r ht hr e
  by_cases e2 : t = d
  · subst e2
    rw [hg] at hr
    cases hr
    exact hn e
  · exact h t r (by omega) hr e
theorem noYet_end {n : Nat} {F : List (Int × Int)} {m : Nat} {zs : List Int} {q p : Nat} (hz : Rl n zs) (hF : ∀ r, r ∈ F → isRect n r) (hq : q < n) (hp : p < n) (e : hB zs q p = true) (h : NoYet n F m zs q p F.length) : ¬ CV n F (m + 1) zs := by
  refine cv_no hz hF hq hp e fun r hr e2 => ?_
  obtain ⟨t, ht, rfl⟩ := List.mem_iff_getElem.1 hr
  exact h t _ ht (List.getElem?_eq_getElem ht) e2

set_option maxRecDepth 100000 in
set_option maxHeartbeats 16000000 in
theorem cover_any {n : Nat} {F : List (Int × Int)} (hF : ∀ r, r ∈ F → isRect n r) (hlF : F.length ≤ 1000) (ao bo : Option Addr) (ca cb : Nat) :
    ∀ (m : Nat) (zs : List Int) (co : Option Addr) (cc : Nat) (w : World), m ≤ 1000 → Rl n zs → Rd w co zs → RdS w bo (FL F) →
      Calls Tryz.prog 31 #[.slice ao n ca, .slice bo F.length cb, .slice co n cc, .int .i64 m] w fun e w' => ∃ b : Bool, e = .returned (.bool b) ∧ (b = true ↔ CV n F m zs) ∧ Below w.heap.size w w' := by
  intro m
  induction m with
  | zero =>
    intro zs co cc w _ hz hx _
    have h4 := hz.four
    have HZ := Lib.hid (And.intro hz (And.intro hz.len hx))
    clear hz hx
    go_enter Tryz.func31, Tryz.ntmps31
    go_wp2
    go_loopw [9, 10, 11, 12, 13] (fun i _ _ _ _ wr => ∃ q : Nat, q ≤ n ∧ i = .int .i64 q ∧ Hid (∀ a j, a < q → j < n → hB zs a j = false) ∧ Dn w wr)
      (fun i _ _ _ _ _ => n - (intOf i).toNat)
    case atStart => exact ⟨0, Nat.zero_le _, rfl, Lib.hid (fun a j ha => by omega), Dn.refl _⟩
    case round =>
      obtain ⟨q, hq, rfl, HQ, hd⟩ := hrel
      by_cases hlt : q < n
      · go_wp2
        go_loopw [10, 11, 12, 13] (fun k _ _ _ wr => ∃ p : Nat, p ≤ n ∧ k = .int .i64 p ∧ Hid (∀ j, j < p → hB zs q j = false) ∧ Dn w wr)
          (fun k _ _ _ _ => n - (intOf k).toNat)
        case atStart => exact ⟨0, Nat.zero_le _, rfl, Lib.hid (fun j hj => by omega), hd⟩
        case round =>
          clear hd
          obtain ⟨p, hp, rfl, HP, hd⟩ := hrel
          by_cases hlp : p < n
          · obtain ⟨b, off, x, hxk, rfl, hbl, hc1⟩ := (hd.rd HZ.out.2.2).get q (by rw [HZ.out.2.1]; exact hlt)
            obtain ⟨y, hy, _⟩ := HZ.out.1.row q
            have hxy : x = (y.val : Int) := by rw [rowA hxk, hy]
            subst hxy
            have hbz := b_bitz y ⟨p, by omega⟩
            dsimp only at hbz
            have hB1 : hB zs q p = hasB (y.val : Int) p := by unfold hB; rw [hy]
            have hi1 : ((q : Nat) : Int) < (n : Int) := by omega
            cases hh : hasB (y.val : Int) p with
            | false =>
              rw [hh] at hbz hB1
              have HB := Lib.hid hB1
              have hb2 : (bits .and .i64 ((y.val : Int) / 2 ^ p) 1 == 0) = true := hbz
              clear hbz hB1 hh hy hxk
              go_wp2
              go_roundw
              case rel => exact ⟨p + 1, by omega, by go_num, Lib.hid (fun j hj => by
                by_cases e : j = p
                · subst e
                  exact HB.out
                · exact HP.out j (by omega)), hd⟩
              case measure => simp [intOf]; omega
            | true =>
              rw [hh] at hbz hB1
              have HB := Lib.hid hB1
              have hb2 : (bits .and .i64 ((y.val : Int) / 2 ^ p) 1 == 0) = false := hbz
              clear hbz hB1 hh hy hxk
              go_wp2
              go_ret
              exact ⟨false, rfl, ⟨fun e => Bool.noConfusion e, fun e => absurd e (cv_no0 hlt hlp HB.out)⟩, hd.below _⟩
          · obtain rfl : p = n := by omega
            go_wp2
            go_roundw
            case rel => exact ⟨q + 1, by omega, by go_num, Lib.hid (fun a j ha hj => by
              by_cases e : a = q
              · subst e
                exact HP.out j hj
              · exact HQ.out a j (by omega) hj), hd⟩
            case measure => simp [intOf]; omega
      · obtain rfl : q = n := by omega
        go_wp2
        go_ret
        exact ⟨true, rfl, ⟨fun _ => cv_none HQ.out, fun _ => rfl⟩, hd.below _⟩
  | succ m ih =>
    intro zs co cc w hm hz hx hR
    have h4 := hz.four
    obtain ⟨i0, hi, hz0, hz1, hz2⟩ := info_parts Tryz.info3
    obtain ⟨b0, off0, _, _, rfl, _, _⟩ := hx.get 0 (by rw [hz.len]; exact hz.one)
    have h1 := hz.one
    have HZ := Lib.hid (And.intro hz (And.intro hz.len hx))
    have HR := Lib.hid (And.intro hR (And.intro ih hF))
    obtain ⟨M, hM⟩ : ∃ M : Int, ((m + 1 : Nat) : Int) = M := ⟨_, rfl⟩
    rw [hM]
    have hmz : (M == 0) = false := beq_eq_false_iff_ne.2 (by omega)
    have hms : M - 1 = (m : Int) := by omega
    have hM1 : 1 ≤ M := by omega
    have hM2 : M ≤ 1000 := by omega
    clear hz hx hR ih hF hM
    go_enter Tryz.func31, Tryz.ntmps31
    go_wp2
    go_loopw [9, 10, 11, 12, 13] (fun i _ _ _ _ wr => ∃ q : Nat, q ≤ n ∧ i = .int .i64 q ∧ Hid (∀ a j, a < q → j < n → hB zs a j = false) ∧ Dn w wr)
      (fun i _ _ _ _ _ => n - (intOf i).toNat)
    case atStart => exact ⟨0, Nat.zero_le _, rfl, Lib.hid (fun a j ha => by omega), Dn.refl _⟩
    case round =>
      obtain ⟨q, hq, rfl, HQ, hd⟩ := hrel
      by_cases hlt : q < n
      · go_wp2
        go_loopw [10, 11, 12, 13] (fun k _ _ _ wr => ∃ p : Nat, p ≤ n ∧ k = .int .i64 p ∧ Hid (∀ j, j < p → hB zs q j = false) ∧ Dn w wr)
          (fun k _ _ _ _ => n - (intOf k).toNat)
        case atStart => exact ⟨0, Nat.zero_le _, rfl, Lib.hid (fun j hj => by omega), hd⟩
        case round =>
          clear hd
          obtain ⟨p, hp, rfl, HP, hd⟩ := hrel
          by_cases hlp : p < n
          · obtain ⟨b, off, x, hxk, hbo, hbl, hc1⟩ := (hd.rd HZ.out.2.2).get q (by rw [HZ.out.2.1]; exact hlt)
            simp only [Option.some.injEq, Addr.mk.injEq, and_true] at hbo
            obtain ⟨rfl, rfl⟩ := hbo
            obtain ⟨y, hy, _⟩ := HZ.out.1.row q
            have hxy : x = (y.val : Int) := by rw [rowA hxk, hy]
            subst hxy
            have hbz := b_bitz y ⟨p, by omega⟩
            dsimp only at hbz
            have hB1 : hB zs q p = hasB (y.val : Int) p := by unfold hB; rw [hy]
            have hi1 : ((q : Nat) : Int) < (n : Int) := by omega
            cases hh : hasB (y.val : Int) p with
            | false =>
              rw [hh] at hbz hB1
              have HB := Lib.hid hB1
              have hb2 : (bits .and .i64 ((y.val : Int) / 2 ^ p) 1 == 0) = true := hbz
              clear hbz hB1 hh hy hxk
              go_wp2
              go_roundw
              case rel => exact ⟨p + 1, by omega, by go_num, Lib.hid (fun j hj => by
                by_cases e : j = p
                · subst e
                  exact HB.out
                · exact HP.out j (by omega)), hd⟩
              case measure => simp [intOf]; omega
            | true =>
              rw [hh] at hbz hB1
              have HB := Lib.hid hB1
              have hb2 : (bits .and .i64 ((y.val : Int) / 2 ^ p) 1 == 0) = false := hbz
              have B1 := hd.below w.heap.size
              clear hbz hB1 hh hy hxk HP HQ
              go_wp2
              clear hc1 hb2 hd
              go_loopw [11, 12, 13] (fun r _ _ wr => ∃ d : Nat, d ≤ F.length ∧ r = .int .i64 d ∧ Hid (NoYet n F m zs q p d) ∧ Below w.heap.size w wr)
                (fun r _ _ _ => F.length - (intOf r).toNat)
              case atStart => exact ⟨0, Nat.zero_le _, rfl, Lib.hid (fun t r ht => by omega), B1⟩
              case round =>
                clear B1
                obtain ⟨d, hdl, rfl, HD, hB⟩ := hrel
                by_cases hld : d < F.length
                · obtain ⟨g, hg⟩ : ∃ g, F[d]? = some g := ⟨_, List.getElem?_eq_getElem hld⟩
                  have hgF : g ∈ F := List.mem_of_getElem? hg
                  obtain ⟨su, tu, rfl, hsu, htu⟩ := HR.out.2.2 g hgF
                  obtain ⟨b', off', ak, ck, rfl, hbl', hc1, hrd⟩ := (HR.out.1.below hB) d _ (FL_at hg)
                  obtain ⟨b2, o2, rfl, hb2, hcs⟩ := hrd 0 (su.val : Int) rfl
                  obtain ⟨b3, o3, he, hb3, hct⟩ := hrd 1 (tu.val : Int) rfl
                  simp only [Option.some.injEq, Addr.mk.injEq, and_true] at he
                  obtain ⟨rfl, rfl⟩ := he
                  simp only [Nat.add_zero] at hcs
                  simp only [List.length_cons, List.length_nil, Nat.zero_add, Nat.reduceAdd] at hc1
                  have hi2 : ((d : Nat) : Int) < (F.length : Int) := by omega
                  have hs0 := b_bitz su ⟨q, by omega⟩
                  have ht0 := b_bitz tu ⟨p, by omega⟩
                  dsimp only at hs0 ht0
                  have HG := Lib.hid (And.intro hg hgF)
                  clear hg hgF hrd
                  cases hhs : hasB (su.val : Int) q with
                  | false =>
                    rw [hhs] at hs0
                    have hs1 : (bits .and .i64 ((su.val : Int) / 2 ^ q) 1 == 0) = true := hs0
                    have HST := Lib.hid (noYet_step HD.out HG.out.1 (fun e => by rw [hasR_iff, hhs] at e; cases e.1))
                    clear hs0 ht0 hhs
                    go_wp2
                    go_roundw
                    case rel => exact ⟨d + 1, by omega, by go_num, HST, hB⟩
                    case measure => simp [intOf]; omega
                  | true =>
                    rw [hhs] at hs0
                    have hs1 : (bits .and .i64 ((su.val : Int) / 2 ^ q) 1 == 0) = false := hs0
                    cases hht : hasB (tu.val : Int) p with
                    | false =>
                      rw [hht] at ht0
                      have ht1 : (bits .and .i64 ((tu.val : Int) / 2 ^ p) 1 == 0) = true := ht0
                      have HST := Lib.hid (noYet_step HD.out HG.out.1 (fun e => by rw [hasR_iff, hht] at e; cases e.2))
                      clear hs0 ht0 hhs hht
                      go_wp2
                      go_roundw
                      case rel => exact ⟨d + 1, by omega, by go_num, HST, hB⟩
                      case measure => simp [intOf]; omega
                    | true =>
                      rw [hht] at ht0
                      have ht1 : (bits .and .i64 ((tu.val : Int) / 2 ^ p) 1 == 0) = false := ht0
                      have HH := Lib.hid (hasR_iff.2 ⟨hhs, hht⟩ : hasR ((su.val : Int), (tu.val : Int)) q p = true)
                      clear hs0 ht0 hhs hht
                      obtain ⟨wq, rfl⟩ : ∃ wq : World, wq = wr := ⟨_, rfl⟩
                      have hB2 := hB
                      clear hB
                      have HNEWS := Lib.hid (news_of (HZ.out.2.2.below hB2))
                      have hls : wq.heap.size ≥ w.heap.size := hB2.size
                      have hzlen := HZ.out.2.1
                      go_wp2_with (at_builtin; refine wpList_append_own _ rfl (.tmp 64) (.tmp 65) 23 rfl wq.heap.size 3 i0 (.int .i64 0) 1 8 Tryz.underlying23 hi hz0 hz1 hz2 rfl (by decide) _ _ _ rfl (row_lit0 wq) ⟨b0, off0, none⟩ n cc (zs.map (Value.int .i64)) rfl (by simp; omega) HNEWS.out (by simp [Value.oneCell']) (by unfold maxLen; omega) (by omega) (by simp) ?_)
                      intro v0 wa hown hgrow _
                      have hB3 : Below wq.heap.size wq wa := (below_one wq (.cells #[] 3)).grown hgrow (by simp) (fun k hk => ((row_lit0 wq).lt k hk).1)
                      obtain ⟨gg, cap, rfl, hg1, hg2⟩ := own_form hown h1
                      have hown2 := own_mono hown hls
                      have hB4 := hB2.trans (hB3.mono hls)
                      clear hgrow HNEWS hown hB3 hB2 hzlen hg2 hc1 hcs hct hs1 ht1
                      have HO0 : wa.ownsRow w.heap.size 3 1 (.slice (some ⟨gg, 0, none⟩) n cap) n ((minTo zs (su.val : Int) (tu.val : Int) 0).map (Value.int .i64)) := hown2
                      clear hown2
                      go_wp2
                      go_loopw [13] (fun v wr => ∃ c : Nat, c ≤ n ∧ v = .int .i64 c ∧ wr.ownsRow w.heap.size 3 1 (.slice (some ⟨gg, 0, none⟩) n cap) n ((minTo zs (su.val : Int) (tu.val : Int) c).map (Value.int .i64)) ∧ Below w.heap.size w wr)
                        (fun v _ => n - (intOf v).toNat)
                      case atStart => exact ⟨0, Nat.zero_le _, rfl, HO0, hB4⟩
                      case round =>
                        clear HO0 hB4
                        obtain ⟨c, hc, rfl, ho, hB⟩ := hrel
                        have hml : (minTo zs (su.val : Int) (tu.val : Int) c).length = n := by rw [min_len]; exact HZ.out.2.1
                        by_cases hlc : c < n
                        · obtain ⟨b', off', ak, ck, hae, hbl', hc1, hrd⟩ := (HR.out.1.below hB) d _ (FL_at HG.out.1)
                          simp only [Option.some.injEq, Addr.mk.injEq, and_true] at hae
                          obtain ⟨rfl, rfl⟩ := hae
                          obtain ⟨b2, o2, rfl, hb2, hcs⟩ := hrd 0 (su.val : Int) rfl
                          obtain ⟨b3, o3, he, hb3, hct⟩ := hrd 1 (tu.val : Int) rfl
                          simp only [Option.some.injEq, Addr.mk.injEq, and_true] at he
                          obtain ⟨rfl, rfl⟩ := he
                          simp only [Nat.add_zero] at hcs
                          simp only [List.length_cons, List.length_nil, Nat.zero_add, Nat.reduceAdd] at hc1
                          have hi3 : ((c : Nat) : Int) < (n : Int) := by omega
                          have hbb := b_bit su ⟨c, by omega⟩
                          dsimp only at hbb
                          clear hrd
                          cases hb : bitB (su.val : Int) c with
                          | false =>
                            rw [hb] at hbb
                            have HST := Lib.hid (min_no (zs := zs) (t := (tu.val : Int)) hbb.symm)
                            have hb4 : (bits .and .i64 ((su.val : Int) / 2 ^ c) 1 == 1) = false := hb
                            clear hbb hb hml
                            go_wp2
                            go_roundw
                            case rel => exact ⟨c + 1, by omega, by go_num, by rw [HST.out]; exact ho, hB⟩
                            case measure => simp [intOf]; omega
                          | true =>
                            rw [hb] at hbb
                            have hst := min_yes (zs := zs) (t := (tu.val : Int)) hbb.symm
                            have hb4 : (bits .and .i64 ((su.val : Int) / 2 ^ c) 1 == 1) = true := hb
                            obtain ⟨Y, hY⟩ : ∃ Y, minTo zs (su.val : Int) (tu.val : Int) c = Y := ⟨_, rfl⟩
                            rw [hY] at hst ho hml
                            have hc2 := ho.cellAt c (by omega)
                            have hf2 := ho.frozenAt c
                            have hzk : (Y.map (Value.int .i64))[c]? = some (.int .i64 (rowAt Y c)) := by
                              rw [List.getElem?_map, rowAt_get (by omega)]
                              rfl
                            rw [hzk] at hc2
                            have hst2 := (ho.stored c (.int .i64 (bits .andNot .i64 (rowAt Y c) (tu.val : Int)))).1
                            rw [← List.map_set, ← hst] at hst2
                            have hgb := (ho.lt gg rfl).1
                            have HST := Lib.hid (And.intro hst2 hgb)
                            clear hst hst2 hzk hbb hb hY hml hgb
                            go_wp2
                            go_region
                            all_goals
                              go_wp2
                              go_roundw
                              case rel => exact ⟨c + 1, by omega, by go_num, HST.out.1.drew, hB.drew.setCell (p := ⟨gg, c, none⟩) HST.out.2 _⟩
                              case measure => simp [intOf]; omega
                        · have hcn : c = n := by omega
                          rw [hcn] at ho hml
                          have hi3 : ¬ ((c : Nat) : Int) < (n : Int) := by omega
                          clear hcn
                          have hrd : Rd wr (some ⟨gg, 0, none⟩) (minR n zs ((su.val : Int), (tu.val : Int))) := rd_own ho hml
                          have hisr : isRect n ((su.val : Int), (tu.val : Int)) := ⟨su, tu, rfl, hsu, htu⟩
                          have hcall := HR.out.2.1 (minR n zs ((su.val : Int), (tu.val : Int))) (some ⟨gg, 0, none⟩) cap wr (by omega) (min_rl HZ.out.1 hisr) hrd (HR.out.1.below hB)
                          have HC := Lib.hid (And.intro hcall hisr)
                          clear hcall hrd hisr ho hml
                          go_wp2_with fail
                          refine HC.out.1.mono ?_
                          rintro e w9 ⟨bb, rfl, hiff, hb9⟩
                          have hB9 := hB.trans (hb9.mono hB.size)
                          clear hb9 hB hi3
                          cases bb with
                          | true =>
                            have HY := Lib.hid (cv_yes HZ.out.1 HC.out.2 HG.out.2 (hiff.1 rfl))
                            clear hiff
                            go_wp2
                            go_ret
                            exact ⟨true, rfl, ⟨fun _ => HY.out, fun _ => rfl⟩, hB9⟩
                          | false =>
                            have HST := Lib.hid (noYet_step HD.out HG.out.1 (fun _ e => Bool.noConfusion (hiff.2 e)))
                            clear hiff
                            go_wp2
                            go_roundw
                            case rel => exact ⟨d + 1, by omega, by go_num, HST, hB9⟩
                            case measure => simp [intOf]; omega
                · obtain rfl : d = F.length := by omega
                  go_wp2
                  go_ret
                  exact ⟨false, rfl, ⟨fun e => Bool.noConfusion e, fun e => absurd e (noYet_end HZ.out.1 HR.out.2.2 hlt hlp HB.out HD.out)⟩, hB⟩
          · obtain rfl : p = n := by omega
            go_wp2
            go_roundw
            case rel => exact ⟨q + 1, by omega, by go_num, Lib.hid (fun a j ha hj => by
              by_cases e : a = q
              · subst e
                exact HP.out j hj
              · exact HQ.out a j (by omega) hj), hd⟩
            case measure => simp [intOf]; omega
      · obtain rfl : q = n := by omega
        go_wp2
        go_ret
        exact ⟨true, rfl, ⟨fun _ => cv_none HQ.out, fun _ => rfl⟩, hd.below _⟩
end Go.Proofs.YthdnpcpimggjnaaGreatDoor

namespace Go.Proofs.YthdnpcpimggjnaaGreatDoor
open Go.RowKit

theorem own2_rdS {w : World} {lo hi : Nat} {v : Value} {F : List (Int × Int)} {gs : Nat → Nat} (h : Own2 w lo hi v F.length (PI F) gs) : ∃ ao cap, v = .slice ao F.length cap ∧ RdS w ao (FL F) := by
  obtain ⟨ao, cap, hv, hc⟩ := h.rd
  refine ⟨ao, cap, hv, fun k ys hk => ?_⟩
  have hlt : k < F.length := by
    have := (List.getElem?_eq_some_iff.1 hk).1
    rw [FL_len] at this
    exact this
  obtain ⟨r, hr⟩ : ∃ r, F[k]? = some r := ⟨_, List.getElem?_eq_getElem hlt⟩
  rw [FL_at hr] at hk
  cases hk
  obtain ⟨b, hb, hcell⟩ := hc k hlt
  obtain ⟨l2, o2⟩ := h.rows k hlt
  rw [PI_at hr] at l2 o2
  have hrow := o2.row
  have hvb := h.row.lt
  refine ⟨b, 0, some ⟨gs k, 0, none⟩, 2, hb, ?_, by rw [Nat.zero_add]; exact hcell, rd_own hrow rfl⟩
  subst hb
  rw [hv] at hvb
  exact (hvb b rfl).2

/-- a number, or 0 -/
def rkI (b : Bool) (k : Nat) : Int := if b then (k : Int) else 0

set_option maxHeartbeats 4000000 in
theorem specRectRank_any (ao : Option Addr) (ca : Nat) (xs : List Int) (k : Nat) (w : World) (hk : relIn xs = true → k ≤ (fullL xs).length ∧ LeastC xs.length (fullL xs) xs k) (hl : xs.length ≤ 1048576) (hx : Rd w ao xs) :
    Calls Tryz.prog 14 #[.slice ao xs.length ca] w fun e w' => e = .returned (.tuple #[.int .i64 (rkI (relIn xs) k), .bool (relIn xs)]) ∧ Below w.heap.size w w' := by
  have h1 := specRelIn_any ao ca xs w hl hx
  cases hp : relIn xs with
  | false =>
    rw [hp] at h1
    have H1 := Lib.hid h1
    clear h1 hp
    go_enter Tryz.func14, Tryz.ntmps14
    go_wp2_with fail
    refine H1.out.mono ?_
    rintro e w1 ⟨rfl, hd⟩
    go_wp2
    go_ret2
    exact ⟨rfl, hd.below _⟩
  | true =>
    rw [hp] at h1
    obtain ⟨hk1, hk2⟩ := hk hp
    have R := Rl.of hp
    have h16 : (fullL xs).length ≤ 16 := Nat.le_trans (full_len xs _) (pow_le16 R.four)
    have H1 := Lib.hid h1
    have HC := Lib.hid (And.intro (fun w h => l6rAll_any R ao ca w h) (And.intro R (And.intro hk2 hx)))
    clear h1 hp hk2 hx R hk
    go_enter Tryz.func14, Tryz.ntmps14
    go_wp2_with fail
    refine H1.out.mono ?_
    rintro e w1 ⟨rfl, hd⟩
    have B1 := hd.below w.heap.size
    clear hd H1
    go_wp2
    go_loopw [4] (fun n wr => ∃ j : Nat, j ≤ k ∧ n = .int .i64 j ∧ Below w.heap.size w wr)
      (fun n _ => k - (intOf n).toNat)
    case atStart => exact ⟨0, Nat.zero_le _, rfl, B1⟩
    case round =>
      clear B1
      obtain ⟨j, hj, rfl, hB⟩ := hrel
      have hall := HC.out.1 wr (HC.out.2.2.2.below hB)
      have HA := Lib.hid hall
      clear hall
      go_wp2_with fail
      refine HA.out.mono ?_
      rintro e w2 ⟨v, gs, rfl, ho, hb⟩
      have hB2 := hB.trans (hb.mono hB.size)
      obtain ⟨bo, cb, rfl, hrs⟩ := own2_rdS ho
      have hcov := cover_any (n := xs.length) (F := fullL xs) (fun r hr => (full_mem HC.out.2.1 hr).1) (by omega) ao bo ca cb j xs ao ca w2 (by omega) HC.out.2.1 (HC.out.2.2.2.below hB2) hrs
      have HV := Lib.hid hcov
      clear hcov hrs ho hb hB HA
      go_wp2_with fail
      refine HV.out.mono ?_
      rintro e w3 ⟨b, rfl, hiff, hb⟩
      have hB3 := hB2.trans (hb.mono hB2.size)
      clear hb hB2 HV
      cases b with
      | true =>
        have hjk : j = k := by
          by_cases e : j < k
          · exact absurd (hiff.1 rfl) (HC.out.2.2.1.2 j e)
          · omega
        have HJ := Lib.hid hjk
        clear hiff hjk
        go_wp2
        go_ret2
        exact ⟨by rw [HJ.out]; rfl, hB3⟩
      | false =>
        have hjk : j < k := by
          by_cases e : j = k
          · subst e
            exact Bool.noConfusion (hiff.2 HC.out.2.2.1.1)
          · omega
        clear hiff
        go_wp2
        go_roundw
        case rel => exact ⟨j + 1, by omega, by go_num, hB3⟩
        case measure => simp [intOf]; omega
end Go.Proofs.YthdnpcpimggjnaaGreatDoor

namespace Go.Proofs.YthdnpcpimggjnaaGreatDoor
open Go.RowKit Go.Shelf
attribute [local go_sem] Oper.semAt_some

theorem full_zero : ∀ n : Fin 5, 1 ≤ n.val → 1 ≤ (fullL (List.replicate n.val 0)).length := by decide +kernel
theorem full_pos {xs : List Int} (R : Rl xs.length xs) : 1 ≤ (fullL xs).length := by
  by_cases h : ∃ i j, i < xs.length ∧ j < xs.length ∧ hB xs i j = true
  · obtain ⟨i, j, hi, hj, e⟩ := h
    obtain ⟨r, hr, _⟩ := full_at R i j hi hj e
    exact List.length_pos_of_mem hr
  · have e : xs = List.replicate xs.length 0 := R.ext (Rl.zeros R.one R.four) fun i j hi hj => by
      rw [hB_zeros xs.length i j (by have := R.four; omega)]
      cases e : hB xs i j with
      | false => rfl
      | true => exact absurd ⟨i, j, hi, hj, e⟩ h
    have h4 := R.four
    have := full_zero ⟨xs.length, by omega⟩ R.one
    dsimp only at this
    rw [← e] at this
    exact this

set_option maxRecDepth 100000 in
set_option maxHeartbeats 4000000 in
theorem rank_any {xs : List Int} (R : Rl xs.length xs) (k : Nat) (hk : LeastC xs.length (fullL xs) xs k) (hk2 : k ≤ 16) (w : World) :
    Calls Tryz.prog 30 #[relOf xs] w fun e w' => e = .returned (.int .i64 (k : Int)) ∧ Below w.heap.size w w' := by
  obtain ⟨hk1, hkj⟩ := least_pc R hk
  have hpos := full_pos R
  have hle : (fullL xs).length ≤ 1000 := by
    have := full_len xs (2 ^ xs.length)
    have := pow_le16 R.four
    unfold fullL
    omega
  have hC := fun (B cap size : Nat) (hz : size ≤ 1000) (w : World) (hrd : PrRd w (some ⟨B, 0, none⟩) (fullL xs)) => callsIn_wide.1 (hasCover_in (F := fullL xs) R (fun r hr => (full_mem R hr).1) hle B cap size hz w hrd)
  have HF := Lib.hid (And.intro (fun w => fullRectangles_any R w) (And.intro hk1 (And.intro hkj (And.intro hC (And.intro hpos hle)))))
  have x1 := RelAt.new w xs
  have B1 := below_one w (.cells #[.int .i64 xs.length, .int .i64 (rowAt xs 0), .int .i64 (rowAt xs 1), .int .i64 (rowAt xs 2), .int .i64 (rowAt xs 3)] 36)
  clear R hk hk1 hkj hpos hle hC
  have p0 := x1.cell0
  have p1 := x1.cell1
  have p2 := x1.cell2
  have p3 := x1.cell3
  have p4 := x1.cell4
  go_enter Tryz.func30, Tryz.ntmps30
  go_wp2_with fail
  refine (HF.out.1 _).mono ?_
  rintro e w2 ⟨v, rfl, ho, hb⟩
  obtain ⟨ao, cap, rfl, hrd⟩ := prRd_of ho
  obtain ⟨p, hp⟩ : ∃ p, (fullL xs)[0]? = some p := ⟨_, List.getElem?_eq_getElem HF.out.2.2.2.2.1⟩
  obtain ⟨b, rfl, _⟩ := hrd 0 p hp
  have x2 := x1.below hb x1.lt
  have B2 := B1.trans (hb.mono B1.size)
  have HR := Lib.hid hrd
  clear hp ho hrd hb x1 B1 p0 p1 p2 p3 p4
  obtain ⟨M, hM⟩ : ∃ M, (fullL xs).length = M := ⟨_, rfl⟩
  have HM := Lib.hid hM
  rw [hM]
  clear hM
  go_wp2
  go_loopw [4] (fun n wr => ∃ j : Nat, j ≤ k ∧ n = .int .i64 j ∧ RelAt wr w.heap.size xs ∧ Below w2.heap.size w2 wr)
    (fun n _ => k - (intOf n).toNat)
  case atStart => exact ⟨0, Nat.zero_le _, rfl, x2, Below.refl _ _⟩
  case round =>
    clear x2
    obtain ⟨j, hj, rfl, hx, hB⟩ := hrel
    have hcov := HF.out.2.2.2.1 b cap j (by omega) wr (HR.out.below hB)
    rw [HM.out] at hcov
    have HC := Lib.hid hcov
    have p0 := hx.cell0
    have p1 := hx.cell1
    have p2 := hx.cell2
    have p3 := hx.cell3
    have p4 := hx.cell4
    clear hcov
    go_wp2_with fail
    refine HC.out.mono ?_
    rintro e w3 ⟨c, rfl, hiff, hb⟩
    have hx3 := hx.below hb hx.lt
    have hB3 := hB.trans (hb.mono hB.size)
    clear hb hB HC hx p0 p1 p2 p3 p4
    cases c with
    | true =>
      have hjk : j = k := by
        by_cases e : j < k
        · exact absurd (hiff.1 rfl) (HF.out.2.2.1 j e)
        · omega
      have HJ := Lib.hid hjk
      clear hiff hjk
      go_wp2
      go_ret
      exact ⟨by rw [HJ.out]; rfl, B2.trans (hB3.mono B2.size)⟩
    | false =>
      have hjk : j < k := by
        by_cases e : j = k
        · subst e
          exact Bool.noConfusion (hiff.2 HF.out.2.1)
        · omega
      clear hiff
      go_wp2
      go_roundw
      case rel => exact ⟨j + 1, by omega, by go_num, hx3, hB3⟩
      case measure => simp [intOf]; omega

set_option maxHeartbeats 4000000 in
theorem implRectRank_any (ao : Option Addr) (ca : Nat) (xs : List Int) (k : Nat) (w : World) (hk : relIn xs = true → k ≤ (fullL xs).length ∧ LeastC xs.length (fullL xs) xs k) (hl : xs.length ≤ 1048576) (hx : Rd w ao xs) :
    Calls Tryz.prog 13 #[.slice ao xs.length ca] w fun e w' => e = .returned (.tuple #[.int .i64 (rkI (relIn xs) k), .bool (relIn xs)]) ∧ Below w.heap.size w w' := by
  cases hp : relIn xs with
  | false =>
    have HP := Lib.hid hp
    clear hp
    go_enter Tryz.func13, Tryz.ntmps13
    go_wp2_with (go_at_call 16; refine (relationFrom_no _ _ _ _ hl HP.out hx).mono ?_; rintro e w1 ⟨rfl, hb⟩)
    go_ret2
    exact ⟨rfl, hb.alloc hb.size _⟩
  | true =>
    obtain ⟨hk1, hk2⟩ := hk hp
    have R := Rl.of hp
    have h16 : (fullL xs).length ≤ 16 := Nat.le_trans (full_len xs _) (pow_le16 R.four)
    have HA := Lib.hid (fun w => rank_any R k hk2 (by omega) w)
    have HP := Lib.hid hp
    clear hp R hk hk1 hk2 h16
    go_enter Tryz.func13, Tryz.ntmps13
    go_wp2_with fail
    refine (relationFrom_yes _ _ _ _ HP.out hx).mono ?_
    rintro e w1 ⟨rfl, hb⟩
    have x1 := RelAt.new w1 xs
    have B1 := hb.alloc hb.size (.cells #[.int .i64 xs.length, .int .i64 (rowAt xs 0), .int .i64 (rowAt xs 1), .int .i64 (rowAt xs 2), .int .i64 (rowAt xs 3)] 36)
    have p0 := x1.cell0
    have p1 := x1.cell1
    have p2 := x1.cell2
    have p3 := x1.cell3
    have p4 := x1.cell4
    clear x1 hb
    go_wp2_with fail
    refine (HA.out _).mono ?_
    rintro e w2 ⟨rfl, hb⟩
    have B2 := B1.trans (hb.mono B1.size)
    clear hb p0 p1 p2 p3 p4
    go_wp2
    go_ret2
    exact ⟨rfl, B2⟩
end Go.Proofs.YthdnpcpimggjnaaGreatDoor
