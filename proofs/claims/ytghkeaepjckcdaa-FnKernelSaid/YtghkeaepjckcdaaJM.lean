/-
  Kept equivalences: the program's keeps; EquKept of both. The iterator of pairs, which stops within the pairs.
-/
import Derived.Test.YtghkeaepjckcdaaJE
import Derived.Test.YtghkeaepjckcdaaED
import Derived.Test.YtghkeaepjckcdaaJL
namespace Go.Proofs.Ytghkeaepjckcdaa
open Go.RowKit Go.Shelf
attribute [local go_sem] Oper.semAt_some

set_option maxRecDepth 100000 in
set_option maxHeartbeats 4000000 in
theorem pairs1_pre (n : Nat) (_hn : 1 ≤ n) (l B : Nat) (xs : List Int) (_h1 : 1 ≤ xs.length) (h4 : xs.length ≤ 4) (J Jx : List (Fin xs.length × Fin xs.length) → World → Prop)
    (hY : ∀ pre x W, J pre W → pre.length < xs.length * xs.length → YieldAt Fence.wide (n - 1) Try.prog l (encP x) W fun e W' =>
      (e = .returned (.bool true) ∧ J (pre ++ [x]) W' ∧ KeepB B W W') ∨ (e = .returned (.bool false) ∧ Jx (pre ++ [x]) W'))
    (W : World) (hr : RelAt W B xs) (h0 : J [] W) :
    CallsIn Fence.wide n Try.prog 92 #[.func (.yield l) #[] #[], .pointer (some ⟨B, 0, none⟩)] W fun e W' => (∃ v, e = .returned v) ∧
      ((∃ ys, ys = pairsOf xs ∧ J ys W') ∨ (∃ pre, (∃ m, pre = pairsTo xs.length xs m) ∧ Jx pre W')) := by
  refine callsIn_of_wp Try.func92 rfl trivial ?_ rfl
  simp only [Try.ntmps92, List.size_toArray, List.length_cons, List.length_nil, Nat.reduceAdd, Nat.reduceSub, Array.replicate_succ, Array.replicate_zero, List.push_toArray, List.append_toArray, List.nil_append, List.cons_append]
  have hc0 := hr.cell0
  gi_wp2
  gi_loopw [7, 3] (fun i _ wr => ∃ k : Nat, k ≤ xs.length ∧ i = .int .i64 k ∧ J (pairsTo xs.length xs (k * xs.length)) wr ∧ RelAt wr B xs)
    (fun i _ _ => xs.length - (intOf i).toNat)
  case atStart => exact ⟨0, Nat.zero_le _, rfl, by simpa [pairsTo] using h0, hr⟩
  case round =>
    clear hc0 hr h0
    obtain ⟨i, hi, rfl, hJs, hr⟩ := hrel
    have hc0 := hr.cell0
    obtain ⟨wo, rfl⟩ : ∃ wo : World, wo = wr := ⟨_, rfl⟩
    by_cases hlt : i < xs.length
    · gi_wp2
      gi_loopw [12, 4] (fun j _ wr => ∃ k : Nat, k ≤ xs.length ∧ j = .int .i64 k ∧ J (pairsTo xs.length xs (i * xs.length + k)) wr ∧ RelAt wr B xs)
        (fun j _ _ => xs.length - (intOf j).toNat)
      case atStart => exact ⟨0, Nat.zero_le _, rfl, hJs, hr⟩
      case round =>
        clear hc0 hr hJs
        obtain ⟨j, hj, rfl, hJs, hr⟩ := hrel
        have hc0 := hr.cell0
        have hc1 := hr.row i (by omega)
        have hq : (i : Int) < 4 := by omega
        by_cases hlj : j < xs.length
        · have hst := pairsTo_step xs.length h4 xs ⟨i, hlt⟩ ⟨j, hlj⟩
          have HST := Lib.hid hst
          clear hst
          have hmul : i * xs.length + j < xs.length * xs.length := by
            have h1 : i * xs.length + xs.length ≤ xs.length * xs.length := by
              have := Nat.mul_le_mul_right xs.length (show i + 1 ≤ xs.length by omega)
              rw [Nat.succ_mul] at this
              exact this
            omega
          cases hb : hasB (rowAt xs i) j with
          | false =>
            gi_wp2_with (refine ⟨trivial, ?_⟩; gi_at_call 93; refine (callsIn_wide.2 (has_any _ j (by omega) _)).mono ?_; rintro e w2 ⟨rfl, rfl⟩)
            refine ⟨fun _ h => (by cases h), ?_⟩
            gi_wp2
            go_roundw
            case rel => exact ⟨j + 1, by omega, by go_num, by have := HST.out; rw [hb] at this; simp only [Bool.false_eq_true, if_false, List.append_nil] at this; rw [← Nat.add_assoc, this]; exact hJs, hr⟩
            case measure => simp [intOf]; omega
          | true =>
            obtain ⟨fn, tmps, assign, body, hy, hR⟩ := hY _ (⟨i, hlt⟩, ⟨j, hlj⟩) wr hJs (Nat.lt_of_le_of_lt (pairsTo_le _ _ _) hmul)
            dsimp only [encP] at hy
            gi_wp2_with (refine ⟨trivial, ?_⟩; gi_at_call 93; refine (callsIn_wide.2 (has_any _ j (by omega) _)).mono ?_; rintro e w2 ⟨rfl, rfl⟩)
            refine hR.mono ?_
            have hst := HST.out
            rw [hb, if_pos rfl] at hst
            rw [← hst]
            have HS2 := Lib.hid hst
            clear hst
            rintro e W3 (⟨rfl, hJ3, hk3⟩ | ⟨rfl, hJx3⟩)
            · have hr3 := hr.keep hk3
              clear hr hc0 hc1
              have hc0 := hr3.cell0
              gi_wp2
              go_roundw
              case rel => exact ⟨j + 1, by omega, by go_num, by rw [← Nat.add_assoc]; exact hJ3, hr3⟩
              case measure => simp [intOf]; omega
            · gi_wp2
              refine bodyPost_ret (results_none rfl _ _ _) rfl ?_
              exact ⟨⟨_, rfl⟩, .inr ⟨_, ⟨_, rfl⟩, hJx3⟩⟩
        · obtain rfl : j = xs.length := by omega
          gi_wp2
          go_roundw
          case rel => exact ⟨i + 1, by omega, by go_num, by rw [Nat.succ_mul]; exact hJs, hr⟩
          case measure => simp [intOf]; omega
    · obtain rfl : i = xs.length := by omega
      gi_wp2
      go_end0
      exact ⟨⟨_, rfl⟩, .inl ⟨_, rfl, hJs⟩⟩

/-- the iterator, told where it stops -/
theorem pairs_stops2 (n : Nat) (hn : 1 ≤ n) (B : Nat) (xs : List Int) (h1 : 1 ≤ xs.length) (h4 : xs.length ≤ 4) (w : World) (hr : RelAt w B xs) :
    SeqStopsK Fence.wide n Try.prog 92 #[.pointer (some ⟨B, 0, none⟩)] (encP (n := xs.length)) (KeepB B) (fun ys => ys = pairsOf xs) (fun pre => ∃ m, pre = pairsTo xs.length xs m) (xs.length * xs.length) w := fun l J Jx W hW _ _ hY h0 =>
  pairs1_pre n hn l B xs h1 h4 J Jx hY W (hr.below hW hr.lt) h0
theorem pairsTo_has {n : Nat} {xs : List Int} {m : Nat} {p : Fin n × Fin n} (h : p ∈ pairsTo n xs m) : hB xs p.1.val p.2.val = true := by
  unfold pairsTo at h
  exact (List.mem_filter.1 h).2

/-- a bool in its block -/
def BoolAt (w : World) (b : Nat) (v : Bool) : Prop := w.heap[b]? = some (.cells #[.bool v] 4 (0, 0))
theorem BoolAt.cell {w : World} {b : Nat} {v : Bool} (h : BoolAt w b v) : w.cell? ⟨b, 0, none⟩ = some (.bool v) := by
  unfold BoolAt at h
  simp [World.cell?, h]
theorem BoolAt.free {w : World} {b : Nat} {v : Bool} (h : BoolAt w b v) : w.frozen? ⟨b, 0, none⟩ = false := by
  unfold BoolAt at h
  simp [World.frozen?, h]
theorem BoolAt.lt {w : World} {b : Nat} {v : Bool} (h : BoolAt w b v) : b < w.heap.size := (Array.getElem?_eq_some_iff.1 h).1
theorem BoolAt.new (w : World) (v : Bool) : BoolAt (w.alloc (.cells #[.bool v] 4)) w.heap.size v := heap_alloc_new w _
theorem BoolAt.alloc {w : World} {b : Nat} {v : Bool} (h : BoolAt w b v) (o : Obj) : BoolAt (w.alloc o) b v := (Below.heap_alloc w o b h.lt).trans h
theorem BoolAt.below {w w' : World} {B b : Nat} {v : Bool} (h : BoolAt w b v) (hb : Below B w w') (hlt : b < B) : BoolAt w' b v := (hb.block b hlt).trans h
theorem BoolAt.set {w : World} {b : Nat} {v : Bool} (h : BoolAt w b v) (v' : Bool) : BoolAt (w.setCell ⟨b, 0, none⟩ (.bool v')) b v' := by
  unfold BoolAt
  rw [heap_setCell_same w b 0 _ _ _ h]
  rfl
theorem boolAt_own {α : Type} (b : Nat) (f : α → Bool) : Own (fun (s : α) W => BoolAt W b (f s)) := by
  intro s W W' row hs hg hr
  refine (hg.block b hs.lt ?_).trans hs
  intro e
  obtain ⟨o, ho, hc⟩ := hr b e.symm
  rw [hs] at ho
  simp only [Option.some.injEq] at ho
  rw [← ho] at hc
  exact absurd hc (by simp [Obj.isCells])


set_option maxRecDepth 100000 in
set_option maxHeartbeats 8000000 in
theorem keeps_in (xs ys : List Int) (w : World) (E : Eqv xs.length xs) (S : Rl xs.length ys) :
    CallsIn Fence.wide 6 Try.prog 67 #[relOf ys, relOf xs] w fun e w' => e = .returned (.bool (keptB xs ys)) ∧ Below w.heap.size w w' := by
  have hK := kept_iff E S
  have hT := fun wr => then_any S E.rl wr
  have h1 := E.rl.one
  have h4 := E.rl.four
  have hml : (compL ys xs).length = xs.length := (S.comp E.rl).len
  have HK := Lib.hid hK
  have HT := Lib.hid hT
  have HML := Lib.hid hml
  have hys := S.len
  have hy4 : ys.length ≤ 4 := by omega
  clear hK hT E S hml
  refine callsIn_of_wp_marks Try.func67 rfl trivial ?_ rfl
  simp only [Try.ntmps67, List.size_toArray, List.length_cons, List.length_nil, Nat.reduceAdd, Nat.reduceSub, Array.replicate_succ, Array.replicate_zero, List.push_toArray, List.append_toArray, List.nil_append, List.cons_append]
  have y1 := ((RelAt.new w ys).alloc (.cells #[.int .i64 xs.length, .int .i64 (rowAt xs 0), .int .i64 (rowAt xs 1), .int .i64 (rowAt xs 2), .int .i64 (rowAt xs 3)] 41)).alloc (.cells #[.bool false] 4)
  have x1 := (RelAt.new (w.alloc (.cells #[.int .i64 ys.length, .int .i64 (rowAt ys 0), .int .i64 (rowAt ys 1), .int .i64 (rowAt ys 2), .int .i64 (rowAt ys 3)] 41)) xs).alloc (.cells #[.bool false] 4)
  have b1 := BoolAt.new ((w.alloc (.cells #[.int .i64 ys.length, .int .i64 (rowAt ys 0), .int .i64 (rowAt ys 1), .int .i64 (rowAt ys 2), .int .i64 (rowAt ys 3)] 41)).alloc (.cells #[.int .i64 xs.length, .int .i64 (rowAt xs 0), .int .i64 (rowAt xs 1), .int .i64 (rowAt xs 2), .int .i64 (rowAt xs 3)] 41)) false
  have B1 := below_three w (.cells #[.int .i64 ys.length, .int .i64 (rowAt ys 0), .int .i64 (rowAt ys 1), .int .i64 (rowAt ys 2), .int .i64 (rowAt ys 3)] 41) (.cells #[.int .i64 xs.length, .int .i64 (rowAt xs 0), .int .i64 (rowAt xs 1), .int .i64 (rowAt xs 2), .int .i64 (rowAt xs 3)] 41) (.cells #[.bool false] 4)
  simp only [World.size_alloc] at x1 b1
  have p0 := x1.cell0
  have p1 := x1.cell1
  have p2 := x1.cell2
  have p3 := x1.cell3
  have p4 := x1.cell4
  have r0 := y1.cell0
  have r1 := y1.cell1
  have r2 := y1.cell2
  have r3 := y1.cell3
  have r4 := y1.cell4
  have HYS := Lib.hid hys
  clear hys
  gi_wp2_with fail
  refine ⟨trivial, ?_⟩
  refine (callsIn_wide.2 (HT.out _)).mono ?_
  rintro e w1 ⟨rfl, hb⟩
  clear p0 p1 p2 p3 p4
  have hs1 : w.heap.size + 3 ≤ w1.heap.size := by have := hb.size; simp at this; omega
  have x2 := (x1.below hb x1.lt).alloc (.cells #[.int .i64 (compL ys xs).length, .int .i64 (rowAt (compL ys xs) 0), .int .i64 (rowAt (compL ys xs) 1), .int .i64 (rowAt (compL ys xs) 2), .int .i64 (rowAt (compL ys xs) 3)] 41)
  have b2 := (b1.below hb b1.lt).alloc (.cells #[.int .i64 (compL ys xs).length, .int .i64 (rowAt (compL ys xs) 0), .int .i64 (rowAt (compL ys xs) 1), .int .i64 (rowAt (compL ys xs) 2), .int .i64 (rowAt (compL ys xs) 3)] 41)
  have m2 := RelAt.new w1 (compL ys xs)
  have B2 := (B1.trans (hb.mono B1.size)).alloc (by omega) (.cells #[.int .i64 (compL ys xs).length, .int .i64 (rowAt (compL ys xs) 0), .int .i64 (rowAt (compL ys xs) 1), .int .i64 (rowAt (compL ys xs) 2), .int .i64 (rowAt (compL ys xs) 3)] 41)
  have p0 := x2.cell0
  have p1 := x2.cell1
  have p2 := x2.cell2
  have p3 := x2.cell3
  have p4 := x2.cell4
  clear hb x1 y1 b1 B1 r0 r1 r2 r3 r4
  gi_wp2_with fail
  refine ⟨trivial, ?_⟩
  refine (callsIn_wide.2 (pairs_any xs _)).mono ?_
  rintro e w3 ⟨rfl, rfl⟩
  clear p0 p1 p2 p3 p4
  gi_wp2
  have b3 := b2.alloc (.cells #[.int .i64 xs.length, .int .i64 (rowAt xs 0), .int .i64 (rowAt xs 1), .int .i64 (rowAt xs 2), .int .i64 (rowAt xs 3)] 41)
  have m3 := m2.alloc (.cells #[.int .i64 xs.length, .int .i64 (rowAt xs 0), .int .i64 (rowAt xs 1), .int .i64 (rowAt xs 2), .int .i64 (rowAt xs 3)] 41)
  have i3 := RelAt.new (w1.alloc (.cells #[.int .i64 (compL ys xs).length, .int .i64 (rowAt (compL ys xs) 0), .int .i64 (rowAt (compL ys xs) 1), .int .i64 (rowAt (compL ys xs) 2), .int .i64 (rowAt (compL ys xs) 3)] 41)) xs
  have B3 := B2.alloc (by simp; omega) (.cells #[.int .i64 xs.length, .int .i64 (rowAt xs 0), .int .i64 (rowAt xs 1), .int .i64 (rowAt xs 2), .int .i64 (rowAt xs 3)] 41)
  have sz : w1.heap.size + 1 + 1 = ((w1.alloc (.cells #[.int .i64 (compL ys xs).length, .int .i64 (rowAt (compL ys xs) 0), .int .i64 (rowAt (compL ys xs) 1), .int .i64 (rowAt (compL ys xs) 2), .int .i64 (rowAt (compL ys xs) 3)] 41)).alloc (.cells #[.int .i64 xs.length, .int .i64 (rowAt xs 0), .int .i64 (rowAt xs 1), .int .i64 (rowAt xs 2), .int .i64 (rowAt xs 3)] 41)).heap.size := by simp
  simp only [World.size_alloc] at i3
  obtain ⟨W0, hW0⟩ : ∃ W0, (w1.alloc (.cells #[.int .i64 (compL ys xs).length, .int .i64 (rowAt (compL ys xs) 0), .int .i64 (rowAt (compL ys xs) 1), .int .i64 (rowAt (compL ys xs) 2), .int .i64 (rowAt (compL ys xs) 3)] 41)).alloc (.cells #[.int .i64 xs.length, .int .i64 (rowAt xs 0), .int .i64 (rowAt xs 1), .int .i64 (rowAt xs 2), .int .i64 (rowAt xs 3)] 41) = W0 := ⟨_, rfl⟩
  rw [hW0] at b3 m3 i3 B3 sz ⊢
  clear hW0 x2 b2 m2 B2
  refine wpIn_rangeFunc_ownF (w0 := W0) rfl (by omega) (gf := 92) (lb := #[.pointer (some ⟨w1.heap.size + 1, 0, none⟩)]) rfl trivial (enters_of Try.func92 (by kernel_rfl) rfl)
    (pairs_stops2 5 (by omega) (w1.heap.size + 1) xs h1 h4 W0 i3) KeepB.t (KeepB.b (by omega)) (Below.refl _ _) (fun _ => rfl)
    (fun pre W => ((∀ p, p ∈ pre → rowAt (compL ys xs) p.1.val = rowAt (compL ys xs) p.2.val) ∧ BoolAt W (w.heap.size + 1 + 1) false ∧ RelAt W w1.heap.size (compL ys xs) ∧ RelAt W (w1.heap.size + 1) xs) ∧ Below w.heap.size w W)
    (fun c pre W => (c = .ret ∧ (∃ p, p ∈ pre ∧ rowAt (compL ys xs) p.1.val ≠ rowAt (compL ys xs) p.2.val) ∧ BoolAt W (w.heap.size + 1 + 1) false) ∧ Below w.heap.size w W)
    (OwnFrom.and (Own.from (fun s A B row hs hg hr => ⟨hs.1, boolAt_own _ (fun _ => false) s A B row hs.2.1 hg hr, relAt_own _ (fun _ => compL ys xs) s A B row hs.2.2.1 hg hr, relAt_own _ (fun _ => xs) s A B row hs.2.2.2 hg hr⟩) _) (ownFrom_below (Nat.le_refl _) (by omega)))
    (fun c => OwnFrom.and (Own.from (fun s A B row hs hg hr => ⟨hs.1, hs.2.1, boolAt_own _ (fun _ => false) s A B row hs.2.2 hg hr⟩) _) (ownFrom_below (Nat.le_refl _) (by omega)))
    ⟨⟨by simp, b3, m3, i3⟩, B3⟩
    (fun x => { tmps := #[relOf ys, relOf xs, .pointer (some ⟨w.heap.size, 0, none⟩), .pointer (some ⟨w.heap.size + 1, 0, none⟩), .pointer (some ⟨w.heap.size + 1 + 1, 0, none⟩), .pointer (some ⟨w1.heap.size, 0, none⟩), .int .i64 (x.1.val : Int), .int .i64 (x.2.val : Int), relOf ys, relOf xs, relOf (compL ys xs), relOf xs, .func (.func 92) #[] #[.pointer (some ⟨w1.heap.size + 1, 0, none⟩)], .int .i64 (x.1.val : Int), .int .i64 (x.2.val : Int), undef, undef, undef, undef, undef, undef, undef, undef, undef], defers := [] }) ?assign ?body ?done ?stop
  case assign =>
    intro l x W K hK
    gi_wp2
    exact hK
  case body =>
    rintro l pre x W ⟨⟨hp, hbo, hm, hi⟩, hB⟩ hlen
    have hx1 := x.1.isLt
    have hx2 := x.2.isLt
    have c1 := hm.row x.1.val (by omega)
    have c2 := hm.row x.2.val (by omega)
    have fb := hbo.free
    have cb := hbo.cell
    have hj1 : ((x.1.val : Nat) : Int) < 4 := by omega
    have hj2 : ((x.2.val : Nat) : Int) < 4 := by omega
    have hmo : Try.prog.follows .mixedOrders = true := by kernel_rfl
    have hcons : ∀ p, p ∈ pre ++ [x] → p ∈ pre ∨ p = x := fun p h => (List.mem_append.1 h).elim .inl (fun h => .inr (List.mem_singleton.1 h))
    have hlast : x ∈ pre ++ [x] := List.mem_append.2 (.inr (List.mem_singleton.2 rfl))
    obtain ⟨a, ha⟩ : ∃ a, rowAt (compL ys xs) x.1.val = a := ⟨_, rfl⟩
    obtain ⟨c, hc⟩ : ∃ c, rowAt (compL ys xs) x.2.val = c := ⟨_, rfl⟩
    rw [ha] at c1
    rw [hc] at c2
    have HL := Lib.hid (And.intro hp (And.intro hbo (And.intro hm (And.intro hi (And.intro hB (And.intro hcons (And.intro hlast (And.intro ha hc))))))))
    clear hp hbo hm hi hB hcons hlast ha hc
    by_cases e : a = c
    · have he : (a != c) = false := by simp [e]
      have HE := Lib.hid e
      clear e
      gi_wp2
      refine wpIn_region_loads_then 8 (by assumption) (by kernel_rfl) (fun _ => trivial) wide_round_calls rfl ?_
      simp only [List.take_succ_cons, List.take_zero, List.drop_succ_cons, List.drop_zero]
      repeat still_step
      refine wpStill_nil ?_
      gi_wp2
      obtain ⟨hp, hbo, hm, hi, hB, hcons, hlast, ha, hc⟩ := HL.out
      exact ⟨(⟨Nat.le_refl _, fun _ _ h _ => h⟩ : KeepsOthers W W.drew), rfl, ⟨fun p h => (hcons p h).elim (hp p) (fun h => by rw [h, ha, hc, HE.out]), hbo, hm, hi⟩, hB.drew⟩
    · have he : (a != c) = true := by simp [e]
      have HE := Lib.hid e
      clear e
      gi_wp2
      refine wpIn_region_loads_then 8 (by assumption) (by kernel_rfl) (fun _ => trivial) wide_round_calls rfl ?_
      simp only [List.take_succ_cons, List.take_zero, List.drop_succ_cons, List.drop_zero]
      repeat still_step
      refine wpStill_nil ?_
      gi_wp2
      obtain ⟨hp, hbo, hm, hi, hB, hcons, hlast, ha, hc⟩ := HL.out
      exact ⟨KeepsOthers.trans (⟨Nat.le_refl _, fun _ _ h _ => h⟩ : KeepsOthers W W.drew) (KeepsOthers.setCell _ _ _), ⟨rfl, ⟨x, hlast, by rw [ha, hc]; exact HE.out⟩, BoolAt.set (w := W.drew) hbo false⟩, hB.drew.setCell (p := ⟨w.heap.size + 1 + 1, 0, none⟩) (by show w.heap.size ≤ w.heap.size + 1 + 1; omega) _⟩
  case done =>
    rintro D zs W hD rfl ⟨⟨hp, hbo, hm, hi⟩, hB⟩ hK
    have hkept : keptB xs ys = true := HK.out.2 fun i j hi hj h => hp (⟨i, hi⟩, ⟨j, hj⟩) ((mem_pairs h4 _).2 h)
    have HKP := Lib.hid hkept
    have fb := hbo.free
    have cb := hbo.cell
    have HS := Lib.hid (hbo.set true)
    have HHB := Lib.hid hB
    clear hp hbo hm hi hkept hB
    gi_wp2
    have hK5 := (KeepsOthers.setCell W ⟨w.heap.size + 1 + 1, 0, none⟩ (.bool true)).same D _ hK rfl
    refine ⟨by simp, .inl ⟨_, _, rfl, run_takeDeferred hK5, ?_⟩⟩
    have hb6 : BoolAt ((W.setCell ⟨w.heap.size + 1 + 1, 0, none⟩ (.bool true)).putObj D (.deferred none)) (w.heap.size + 1 + 1) true := (World.putObj_heap_other (by omega)).trans HS.out
    have c0 := hb6.cell
    exact ⟨.bool true, by simp [results, Try.results67, go_sem, c0], by rw [HKP.out], (HHB.out.setCell (p := ⟨w.heap.size + 1 + 1, 0, none⟩) (by show w.heap.size ≤ w.heap.size + 1 + 1; omega) _).trans (belowK_b (w := w) (Nat.le_refl _) _ D _ _ (by omega) hK5 rfl rfl)⟩
  case stop =>
    rintro D c pre W hD ⟨m, rfl⟩ ⟨⟨rfl, ⟨p, hp, hne⟩, hbo⟩, hB⟩ hK
    have hkept : keptB xs ys = false := by
      rw [Bool.eq_false_iff]
      intro h
      exact hne (HK.out.1 h p.1.val p.2.val p.1.isLt p.2.isLt (pairsTo_has hp))
    have HKP := Lib.hid hkept
    have HBO := Lib.hid hbo
    have HHB := Lib.hid hB
    clear hp hne hbo hkept hB
    gi_wp2
    refine ⟨by simp, .inl ⟨_, _, rfl, run_takeDeferred hK, ?_⟩⟩
    have hb6 : BoolAt (W.putObj D (.deferred none)) (w.heap.size + 1 + 1) false := (World.putObj_heap_other (by omega)).trans HBO.out
    have c0 := hb6.cell
    exact ⟨.bool false, by simp [results, Try.results67, go_sem, c0], by rw [HKP.out], HHB.out.trans (belowK_b (w := w) (Nat.le_refl _) W D _ _ (by omega) hK rfl rfl)⟩

theorem keeps_any {xs ys : List Int} (E : Eqv xs.length xs) (S : Rl xs.length ys) (w : World) :
    Calls Try.prog 67 #[relOf ys, relOf xs] w fun e w' => e = .returned (.bool (keptB xs ys)) ∧ Below w.heap.size w w' := callsIn_wide.1 (keeps_in xs ys w E S)

def keptAll (xs ys : List Int) : Bool := twoIn xs ys && (equB xs && keptB xs ys)
theorem twoIn_comm (xs ys : List Int) : twoIn ys xs = twoIn xs ys := by
  unfold twoIn
  rw [Bool.and_comm (relIn ys), show decide (ys.length = xs.length) = decide (xs.length = ys.length) from decide_eq_decide.2 ⟨Eq.symm, Eq.symm⟩]

set_option maxHeartbeats 1000000 in
theorem implEquKept_any (ao bo : Option Addr) (ca cb : Nat) (xs ys : List Int) (w : World) (hl : xs.length ≤ 1048576) (hl2 : ys.length ≤ 1048576) (hx : Rd w ao xs) (hy : Rd w bo ys) :
    Calls Try.prog 30 #[.slice ao xs.length ca, .slice bo ys.length cb] w fun e w' => e = .returned (.bool (keptAll xs ys)) ∧ Below w.heap.size w w' := by
  unfold keptAll
  cases h2 : twoIn xs ys with
  | false =>
    rw [Bool.false_and]
    have H1 := Lib.hid (two_no ao bo ca cb xs ys w hl hl2 hx hy h2)
    clear h2 hx hy
    go_enter Try.func30, Try.ntmps30
    go_wp2_with fail
    refine H1.out.mono ?_
    rintro e w1 ⟨rfl, hb⟩
    go_wp2
    go_ret
    exact ⟨rfl, (hb.alloc hb.size _).alloc (by have := hb.size; simp; omega) _⟩
  | true =>
    rw [Bool.true_and]
    obtain ⟨hrx, hry, hn⟩ := twoIn_yes h2
    have R := Rl.of hrx
    have S := Rl.of hry
    rw [← hn] at S
    have hE := fun wr => isEquivalence_any R wr
    have H1 := Lib.hid (two_yes ao bo ca cb xs ys w hx hy hrx hry hn)
    have h4 := R.four
    have h4y : ys.length ≤ 4 := by omega
    cases hp : equB xs with
    | false =>
      rw [Bool.false_and]
      rw [hp] at hE
      have HE := Lib.hid hE
      clear hE hp hx hy hrx hry hn R S h2
      go_enter Try.func30, Try.ntmps30
      go_wp2_with fail
      refine H1.out.mono ?_
      rintro e w1 ⟨rfl, hb⟩
      have x1 := (RelAt.new w1 xs).alloc (.cells #[.int .i64 ys.length, .int .i64 (rowAt ys 0), .int .i64 (rowAt ys 1), .int .i64 (rowAt ys 2), .int .i64 (rowAt ys 3)] 41)
      have B1 := (hb.alloc hb.size (.cells #[.int .i64 xs.length, .int .i64 (rowAt xs 0), .int .i64 (rowAt xs 1), .int .i64 (rowAt xs 2), .int .i64 (rowAt xs 3)] 41)).alloc (by have := hb.size; simp; omega) (.cells #[.int .i64 ys.length, .int .i64 (rowAt ys 0), .int .i64 (rowAt ys 1), .int .i64 (rowAt ys 2), .int .i64 (rowAt ys 3)] 41)
      have p0 := x1.cell0
      have p1 := x1.cell1
      have p2 := x1.cell2
      have p3 := x1.cell3
      have p4 := x1.cell4
      clear x1 hb
      go_wp2_with fail
      refine (HE.out _).mono ?_
      rintro e w2 ⟨rfl, hb2⟩
      go_wp2
      go_ret
      exact ⟨rfl, B1.trans (hb2.mono B1.size)⟩
    | true =>
      rw [Bool.true_and]
      have E := (equ_iff xs).1 hp
      have hK := fun wr => keeps_any E S wr
      rw [hp] at hE
      have HE := Lib.hid hE
      have HK := Lib.hid hK
      clear hE hK hp hx hy hrx hry hn R S h2 E
      obtain ⟨kb, hkb⟩ : ∃ b, keptB xs ys = b := ⟨_, rfl⟩
      rw [hkb] at HK ⊢
      clear hkb
      go_enter Try.func30, Try.ntmps30
      go_wp2_with fail
      refine H1.out.mono ?_
      rintro e w1 ⟨rfl, hb⟩
      have x1 := (RelAt.new w1 xs).alloc (.cells #[.int .i64 ys.length, .int .i64 (rowAt ys 0), .int .i64 (rowAt ys 1), .int .i64 (rowAt ys 2), .int .i64 (rowAt ys 3)] 41)
      have s1 := RelAt.new (w1.alloc (.cells #[.int .i64 xs.length, .int .i64 (rowAt xs 0), .int .i64 (rowAt xs 1), .int .i64 (rowAt xs 2), .int .i64 (rowAt xs 3)] 41)) ys
      simp only [World.size_alloc] at s1
      have B1 := (hb.alloc hb.size (.cells #[.int .i64 xs.length, .int .i64 (rowAt xs 0), .int .i64 (rowAt xs 1), .int .i64 (rowAt xs 2), .int .i64 (rowAt xs 3)] 41)).alloc (by have := hb.size; simp; omega) (.cells #[.int .i64 ys.length, .int .i64 (rowAt ys 0), .int .i64 (rowAt ys 1), .int .i64 (rowAt ys 2), .int .i64 (rowAt ys 3)] 41)
      have p0 := x1.cell0
      have p1 := x1.cell1
      have p2 := x1.cell2
      have p3 := x1.cell3
      have p4 := x1.cell4
      clear hb
      go_wp2_with fail
      refine (HE.out _).mono ?_
      rintro e w2 ⟨rfl, hb2⟩
      have x2 := x1.below hb2 x1.lt
      have s2 := s1.below hb2 s1.lt
      have B2 := B1.trans (hb2.mono B1.size)
      clear p0 p1 p2 p3 p4 x1 s1 hb2 B1
      have p0 := x2.cell0
      have p1 := x2.cell1
      have p2 := x2.cell2
      have p3 := x2.cell3
      have p4 := x2.cell4
      have r0 := s2.cell0
      have r1 := s2.cell1
      have r2 := s2.cell2
      have r3 := s2.cell3
      have r4 := s2.cell4
      go_wp2_with fail
      refine (HK.out _).mono ?_
      rintro e w3 ⟨rfl, hb3⟩
      go_wp2
      go_ret
      exact ⟨rfl, B2.trans (hb3.mono B2.size)⟩

set_option maxHeartbeats 1000000 in
theorem specEquKept_any (ao bo : Option Addr) (ca cb : Nat) (xs ys : List Int) (w : World) (hl : xs.length ≤ 1048576) (hl2 : ys.length ≤ 1048576) (hx : Rd w ao xs) (hy : Rd w bo ys) :
    Calls Try.prog 31 #[.slice ao xs.length ca, .slice bo ys.length cb] w fun e w' => e = .returned (.bool (keptAll xs ys)) ∧ Below w.heap.size w w' := by
  have h1 := l1Two_any bo ao cb ca ys xs w hl2 hl hy hx
  rw [twoIn_comm] at h1
  unfold keptAll
  cases h2 : twoIn xs ys with
  | false =>
    rw [Bool.false_and]
    rw [h2] at h1
    have H1 := Lib.hid h1
    clear h1 h2 hx hy
    go_enter Try.func31, Try.ntmps31
    go_wp2_with fail
    refine H1.out.mono ?_
    rintro e w1 ⟨rfl, hd⟩
    go_wp2
    go_ret
    exact ⟨rfl, hd.below _⟩
  | true =>
    rw [Bool.true_and]
    rw [h2] at h1
    obtain ⟨hrx, hry, hn⟩ := twoIn_yes h2
    have R := Rl.of hrx
    have S := Rl.of hry
    rw [← hn] at S
    have h4 := R.four
    have h4y : ys.length ≤ 4 := by omega
    have hE := fun wr h => specEquIn_any ao ca xs wr hl h
    cases hp : equB xs with
    | false =>
      rw [Bool.false_and]
      rw [hp] at hE
      have H1 := Lib.hid h1
      have HE := Lib.hid hE
      clear hE hp hrx hry hn R S h2 h1 hy
      go_enter Try.func31, Try.ntmps31
      go_wp2_with fail
      refine H1.out.mono ?_
      rintro e w1 ⟨rfl, hd⟩
      have hx1 := hd.rd hx
      have hb := hd.below w.heap.size
      clear hd hx
      go_wp2_with fail
      refine (HE.out _ hx1).mono ?_
      rintro e w2 ⟨rfl, hb2⟩
      go_wp2
      go_ret
      exact ⟨rfl, hb.trans (hb2.mono hb.size)⟩
    | true =>
      rw [Bool.true_and]
      rw [hp] at hE
      have C1 := R.comp S
      have C2 := S.comp R
      have hC1 := fun wr h h' => l2Comp_any ao bo ca cb xs ys wr h4 h4y R.in16 h h'
      have hC2 := fun wr h h' => l2Comp_any bo ao cb ca ys xs wr h4y h4 S.in16 h h'
      have hlen : xs.length = (compL xs ys).length ∧ ys.length = (compL ys xs).length := ⟨C1.len.symm, by rw [C2.len, hn]⟩
      rw [hlen.1] at hC1
      have hBl := fun (ao bo : Option Addr) (ca cb : Nat) wr h h' => l1Below_any ao bo ca cb (compL xs ys) (compL ys xs) wr (by rw [C1.len]; exact h4) (by rw [C1.len, C2.len]) h h'
      have hC1 := fun wr h h' => l2Comp_any ao bo ca cb xs ys wr h4 h4y R.in16 h h'
      have H1 := Lib.hid h1
      have HE := Lib.hid hE
      have HC := Lib.hid (And.intro hC1 (And.intro hC2 (And.intro hBl hlen)))
      clear hE hp hrx hry hn R S h2 h1 C1 C2 hC1 hC2 hBl hlen
      unfold keptB
      go_enter Try.func31, Try.ntmps31
      go_wp2_with fail
      refine H1.out.mono ?_
      rintro e w1 ⟨rfl, hd⟩
      have hx1 := hd.rd hx
      have hy1 := hd.rd hy
      have hb := hd.below w.heap.size
      clear hd hx hy
      go_wp2_with fail
      refine (HE.out _ hx1).mono ?_
      rintro e w2 ⟨rfl, hb2⟩
      have hx2 := hx1.below hb2
      have hy2 := hy1.below hb2
      have B2 := hb.trans (hb2.mono hb.size)
      clear hb hb2 hx1 hy1
      go_wp2_with fail
      refine (HC.out.1 _ hx2 hy2).mono ?_
      rintro e w3 ⟨v, rfl, ho, hb3⟩
      have hx3 := hx2.below hb3
      have hy3 := hy2.below hb3
      have B3 := B2.trans (hb3.mono B2.size)
      rw [HC.out.2.2.2.1] at ho
      obtain ⟨co, cc, rfl, hc⟩ := row_rd ho
      clear ho hb3 B2 hx2 hy2
      go_wp2_with fail
      refine (HC.out.2.1 _ hy3 hx3).mono ?_
      rintro e w4 ⟨v, rfl, ho, hb4⟩
      have hc4 := hc.below hb4
      have B4 := B3.trans (hb4.mono B3.size)
      rw [HC.out.2.2.2.2] at ho
      obtain ⟨eo, ec, rfl, he⟩ := row_rd ho
      clear ho hb4 B3 hx3 hy3 hc
      go_wp2_with fail
      refine (HC.out.2.2.1 _ _ _ _ _ hc4 he).mono ?_
      rintro e w5 ⟨rfl, hd5⟩
      go_wp2
      go_ret
      exact ⟨rfl, B4.trans (hd5.below _)⟩
end Go.Proofs.Ytghkeaepjckcdaa
