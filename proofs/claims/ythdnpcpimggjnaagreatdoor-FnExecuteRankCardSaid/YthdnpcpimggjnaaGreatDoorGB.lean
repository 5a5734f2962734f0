/-
  Contracts of the program's functions on relations, as laws on drawn relations ask them.
-/
import Derived.Test.YthdnpcpimggjnaaGreatDoorEG
import Derived.Deep.RegionHeld3
import Derived.Test.YthdnpcpimggjnaaGreatDoorEB
import Derived.Sort.QuietIn
import Derived.Test.YthdnpcpimggjnaaGreatDoorX
import Derived.Test.YthdnpcpimggjnaaGreatDoorH
import Derived.Test.YthdnpcpimggjnaaGreatDoorDC
import Derived.Test.YthdnpcpimggjnaaGreatDoorDI
namespace Go.Proofs.YthdnpcpimggjnaaGreatDoor
open Go.RowKit

/-- a list of powers as the program's value -/
abbrev plV (g cap m a : Nat) : Value := .agg #[.slice (some ⟨g, 0, none⟩) (m + 1) cap, .int .i64 a]

theorem wrap_of (x : Int) (h1 : -1048576 ≤ x) (h2 : x ≤ 1048576) : IntKind.i64.wrap x = x := by
  simp only [IntKind.wrap, IntKind.bits, IntKind.signed]
  simp only [Bool.true_and]
  by_cases h : 0 ≤ x
  · rw [if_neg (by intro hh; have := of_decide_eq_true hh; omega)]
    omega
  · rw [if_pos (by apply decide_eq_true; omega)]
    omega

theorem period_any (g cap m a : Nat) (ha : a < m) (hm : m ≤ 65536) (w : World) :
    Calls Tryz.prog 191 #[plV g cap m a] w fun e w' => e = .returned (.int .i64 ((m - a : Nat) : Int)) ∧ Below w.heap.size w w' := by
  obtain ⟨d, rfl⟩ : ∃ d, m = a + d := ⟨m - a, by omega⟩
  go_enter Tryz.func191, Tryz.ntmps191
  go_wp2
  go_ret
  exact ⟨ret_int (by push_cast; omega), below_one _ _⟩

/-- a block that holds a list of powers -/
def PbAt (w : World) (b : Nat) (v : Value) (a : Int) : Prop := w.heap[b]? = some (.cells #[v, .int .i64 a] 152 (0, 0))
theorem PbAt.new (w : World) (v : Value) (a : Int) : PbAt (w.alloc (.cells #[v, .int .i64 a] 152)) w.heap.size v a := heap_alloc_new w _
theorem PbAt.lt {w : World} {b : Nat} {v : Value} {a : Int} (h : PbAt w b v a) : b < w.heap.size := (Array.getElem?_eq_some_iff.1 h).1
theorem PbAt.alloc {w : World} {b : Nat} {v : Value} {a : Int} (h : PbAt w b v a) (o : Obj) : PbAt (w.alloc o) b v a := (Below.heap_alloc w o b h.lt).trans h
theorem PbAt.drew {w : World} {b : Nat} {v : Value} {a : Int} (h : PbAt w b v a) : PbAt w.drew b v a := h
theorem PbAt.below {w w' : World} {B b : Nat} {v : Value} {a : Int} (h : PbAt w b v a) (hb : Below B w w') (hlt : b < B) : PbAt w' b v a := (hb.block b hlt).trans h
theorem PbAt.other {w : World} {b : Nat} {v : Value} {a : Int} (h : PbAt w b v a) {p : Addr} (hp : b ≠ p.block) (u : Value) : PbAt (w.setCell p u) b v a := (Below.heap_setCell w p u b hp).trans h
theorem PbAt.cell0 {w : World} {b : Nat} {v : Value} {a : Int} (h : PbAt w b v a) : w.cell? ⟨b, 0, none⟩ = some v := by
  unfold PbAt at h
  simp [World.cell?, h]
theorem PbAt.cell1 {w : World} {b : Nat} {v : Value} {a : Int} (h : PbAt w b v a) : w.cell? ⟨b, 1, none⟩ = some (.int .i64 a) := by
  unfold PbAt at h
  simp [World.cell?, h]
end Go.Proofs.YthdnpcpimggjnaaGreatDoor

namespace Go.Proofs.YthdnpcpimggjnaaGreatDoor
open Go.RowKit

theorem eitherR {n : Nat} {xs ys : List Int} (h : Rl n xs) (k : Rl n ys) (w : World) : Calls Tryz.prog 114 #[relOf xs, relOf ys] w fun e w' => e = .returned (relOf (eitherL xs ys)) ∧ Below w.heap.size w w' := either_any xs ys w (h.len.symm ▸ h.four) (h.len.trans k.len.symm)

theorem own_otherR {w : World} {e : TypeId} {size lo n g cap : Nat} {us : List Value} (h : w.ownsRow lo e size (.slice (some ⟨g, 0, none⟩) n cap) n us) {p : Addr} (hp : g ≠ p.block) (v : Value) : (w.setCell p v).ownsRow lo e size (.slice (some ⟨g, 0, none⟩) n cap) n us := by
  refine ⟨h.1, ?_⟩
  rcases h.2 with h2 | ⟨g', cap', cur, he, h2, h3, h4⟩
  · exact .inl h2
  · cases he
    exact .inr ⟨g, cap, cur, rfl, h2, (Below.heap_setCell w p v g hp).trans h3, h4⟩

set_option maxRecDepth 100000 in
set_option maxHeartbeats 8000000 in
theorem from_any {xs : List Int} {m a : Nat} (h : Rl xs.length xs) (hm : m ≤ 65536) (g cap s : Nat) (hs : s ≤ 1) (hsm : s ≤ m) (w : World) (ho : w.ownsRow 0 36 5 (.slice (some ⟨g, 0, none⟩) (m + 1) cap) (m + 1) (powC xs (m + 1))) :
    Calls Tryz.prog 182 #[plV g cap m a, .int .i64 s] w fun e w' => e = .returned (relOf (fromL xs s (m - s))) ∧ Below w.heap.size w w' := by
  have hg := (ho.lt g rfl).2
  have hcap : m + 1 ≤ cap := by
    rcases ho.2 with ⟨h, _⟩ | ⟨g', cap', cur, he, _, _, hle, _⟩
    · cases h
    · cases he
      exact hle
  have H := Lib.hid h
  clear h
  by_cases hcs : cap = s + 1
  · subst hcs
    have ho2 := (ho.alloc (.cells #[.slice (some ⟨g, 0, none⟩) (m + 1) (s + 1), .int .i64 a] 152)).alloc (.cells #[.int .i64 0, .int .i64 0, .int .i64 0, .int .i64 0, .int .i64 0] 36)
    obtain ⟨c0, c1, c2, c3, c4⟩ := pow_cells ho2 s (by omega)
    have hi1 : (s : Int) < (m : Int) + 1 := by omega
    have hi2 : (s : Int) < ((m + 1 : Nat) : Int) := by omega
    have hi3 : (s : Int) + 1 ≤ (m : Int) + 1 := by omega
    have z1 := rel_zero (w.alloc (.cells #[.slice (some ⟨g, 0, none⟩) (m + 1) (s + 1), .int .i64 a] 152))
    have B0 := below_two w (.cells #[.slice (some ⟨g, 0, none⟩) (m + 1) (s + 1), .int .i64 a] 152) (.cells #[.int .i64 0, .int .i64 0, .int .i64 0, .int .i64 0, .int .i64 0] 36)
    rw [World.size_alloc] at z1
    have r2 := RelAt.new ((w.alloc (.cells #[.slice (some ⟨g, 0, none⟩) (m + 1) (s + 1), .int .i64 a] 152)).alloc (.cells #[.int .i64 0, .int .i64 0, .int .i64 0, .int .i64 0, .int .i64 0] 36)) (powL xs s)
    rw [World.size_alloc, World.size_alloc] at r2
    have z2 := z1.alloc (.cells #[.int .i64 (powL xs s).length, .int .i64 (rowAt (powL xs s) 0), .int .i64 (rowAt (powL xs s) 1), .int .i64 (rowAt (powL xs s) 2), .int .i64 (rowAt (powL xs s) 3)] 36)
    have ho3 := ho2.alloc (.cells #[.int .i64 (powL xs s).length, .int .i64 (rowAt (powL xs s) 0), .int .i64 (rowAt (powL xs s) 1), .int .i64 (rowAt (powL xs s) 2), .int .i64 (rowAt (powL xs s) 3)] 36)
    have B1 := B0.alloc B0.size (.cells #[.int .i64 (powL xs s).length, .int .i64 (rowAt (powL xs s) 0), .int .i64 (rowAt (powL xs s) 1), .int .i64 (rowAt (powL xs s) 2), .int .i64 (rowAt (powL xs s) 3)] 36)
    have HF := Lib.hid (And.intro r2 (And.intro z2 (And.intro ho3 B1)))
    clear r2 z2 ho3 B1 B0 z1 ho2 ho
    go_enter Tryz.func182, Tryz.ntmps182
    go_wp2
    have r2 := HF.out.1
    have z2 := HF.out.2.1
    have ho3 := HF.out.2.2.1
    have B1 := HF.out.2.2.2
    clear HF c0 c1 c2 c3 c4 hi1 hi2 hi3
    go_loopw [19, 7] (fun i _ W => ∃ j : Nat, j ≤ m - s ∧ i = .int .i64 j ∧ RelAt W (w.heap.size + 1 + 1) (fromL xs s j) ∧ RelAt W (w.heap.size + 1) [] ∧ W.ownsRow 0 36 5 (.slice (some ⟨g, 0, none⟩) (m + 1) (s + 1)) (m + 1) (powC xs (m + 1)) ∧ Below w.heap.size w W)
      (fun i _ _ => m - s - (intOf i).toNat)
    case atStart => exact ⟨0, Nat.zero_le _, rfl, r2, z2, ho3, B1⟩
    case round =>
      clear r2 z2 ho3 B1
      obtain ⟨j, hj, rfl, hr, hz, ho, hB⟩ := hrel
      have hgW := (ho.lt g rfl).2
      by_cases hlt : j < m - s
      · exfalso
        omega
      · obtain rfl : j = m - s := by omega
        have p0 := hr.cell0
        have p1 := hr.cell1
        have p2 := hr.cell2
        have p3 := hr.cell3
        have p4 := hr.cell4
        have q0 := hz.cell0
        have q1 := hz.cell1
        have q2 := hz.cell2
        have q3 := hz.cell3
        have q4 := hz.cell4
        have f0 := hz.free 0
        have f1 := hz.free 1
        have f2 := hz.free 2
        have f3 := hz.free 3
        have f4 := hz.free 4
        go_wp2
        have bb := fun (W : World) (i : Nat) (v : Value) (h : Below w.heap.size w W) => h.setCell (p := ⟨w.heap.size + 1, i, none⟩) (Nat.le_succ _) v
        exact bodyPost_ret (v := relOf (fromL xs s (m - s))) (by simp [results, Tryz.results182, go_sem, q0, q1, q2, q3, q4]) rfl ⟨rfl, bb _ _ _ (bb _ _ _ (bb _ _ _ (bb _ _ _ (bb _ _ _ hB))))⟩
  · have ho2 := (ho.alloc (.cells #[.slice (some ⟨g, 0, none⟩) (m + 1) cap, .int .i64 a] 152)).alloc (.cells #[.int .i64 0, .int .i64 0, .int .i64 0, .int .i64 0, .int .i64 0] 36)
    obtain ⟨c0, c1, c2, c3, c4⟩ := pow_cells ho2 s (by omega)
    have hi1 : (s : Int) < (m : Int) + 1 := by omega
    have hi2 : (s : Int) < ((m + 1 : Nat) : Int) := by omega
    have hi3 : (s : Int) + 1 ≤ (m : Int) + 1 := by omega
    have z1 := rel_zero (w.alloc (.cells #[.slice (some ⟨g, 0, none⟩) (m + 1) cap, .int .i64 a] 152))
    have B0 := below_two w (.cells #[.slice (some ⟨g, 0, none⟩) (m + 1) cap, .int .i64 a] 152) (.cells #[.int .i64 0, .int .i64 0, .int .i64 0, .int .i64 0, .int .i64 0] 36)
    rw [World.size_alloc] at z1
    have r2 := RelAt.new ((w.alloc (.cells #[.slice (some ⟨g, 0, none⟩) (m + 1) cap, .int .i64 a] 152)).alloc (.cells #[.int .i64 0, .int .i64 0, .int .i64 0, .int .i64 0, .int .i64 0] 36)) (powL xs s)
    rw [World.size_alloc, World.size_alloc] at r2
    have z2 := z1.alloc (.cells #[.int .i64 (powL xs s).length, .int .i64 (rowAt (powL xs s) 0), .int .i64 (rowAt (powL xs s) 1), .int .i64 (rowAt (powL xs s) 2), .int .i64 (rowAt (powL xs s) 3)] 36)
    have ho3 := ho2.alloc (.cells #[.int .i64 (powL xs s).length, .int .i64 (rowAt (powL xs s) 0), .int .i64 (rowAt (powL xs s) 1), .int .i64 (rowAt (powL xs s) 2), .int .i64 (rowAt (powL xs s) 3)] 36)
    have B1 := B0.alloc B0.size (.cells #[.int .i64 (powL xs s).length, .int .i64 (rowAt (powL xs s) 0), .int .i64 (rowAt (powL xs s) 1), .int .i64 (rowAt (powL xs s) 2), .int .i64 (rowAt (powL xs s) 3)] 36)
    have HF := Lib.hid (And.intro r2 (And.intro z2 (And.intro ho3 B1)))
    clear r2 z2 ho3 B1 B0 z1 ho2 ho
    go_enter Tryz.func182, Tryz.ntmps182
    go_wp2
    have r2 := HF.out.1
    have z2 := HF.out.2.1
    have ho3 := HF.out.2.2.1
    have B1 := HF.out.2.2.2
    clear HF c0 c1 c2 c3 c4 hi1 hi2 hi3
    go_loopw [19, 7] (fun i _ W => ∃ j : Nat, j ≤ m - s ∧ i = .int .i64 j ∧ RelAt W (w.heap.size + 1 + 1) (fromL xs s j) ∧ RelAt W (w.heap.size + 1) [] ∧ W.ownsRow 0 36 5 (.slice (some ⟨g, 0, none⟩) (m + 1) cap) (m + 1) (powC xs (m + 1)) ∧ Below w.heap.size w W)
      (fun i _ _ => m - s - (intOf i).toNat)
    case atStart => exact ⟨0, Nat.zero_le _, rfl, r2, z2, ho3, B1⟩
    case round =>
      clear r2 z2 ho3 B1
      obtain ⟨j, hj, rfl, hr, hz, ho, hB⟩ := hrel
      have hgW := (ho.lt g rfl).2
      by_cases hlt : j < m - s
      · have hhr := hr.lt
        have hzl := hz.lt
        obtain ⟨c0, c1, c2, c3, c4⟩ := pow_cells ho (s + 1 + j) (by omega)
        have e5 : (s + 1 + j) * 5 = (s + 1) * 5 + j * 5 := by omega
        rw [e5] at c0 c1 c2 c3 c4
        obtain ⟨Q, hQ⟩ : ∃ Q, powL xs (s + 1 + j) = Q := ⟨_, rfl⟩
        obtain ⟨F, hF⟩ : ∃ F, fromL xs s j = F := ⟨_, rfl⟩
        rw [hQ] at c0 c1 c2 c3 c4
        rw [hF] at hr
        have RQ : Rl xs.length Q := hQ ▸ H.out.pow (s + 1 + j)
        have RF : Rl xs.length F := hF ▸ H.out.from s j
        have hE : fromL xs s (j + 1) = eitherL F Q := by
          rw [← hQ, ← hF, show s + 1 + j = s + j + 1 by omega]
          rfl
        have HE := Lib.hid (And.intro hE (And.intro RQ RF))
        clear hQ hF hE RQ RF
        have p0 := hr.cell0
        have p1 := hr.cell1
        have p2 := hr.cell2
        have p3 := hr.cell3
        have p4 := hr.cell4
        have hj1 : (j : Int) < ((m - s : Nat) : Int) := by omega
        go_wp2_with fail
        refine (eitherR HE.out.2.2 HE.out.2.1 _).mono ?_
        rintro e w3 ⟨rfl, hb⟩
        have hr3 := (hr.alloc (.cells #[.int .i64 Q.length, .int .i64 (rowAt Q 0), .int .i64 (rowAt Q 1), .int .i64 (rowAt Q 2), .int .i64 (rowAt Q 3)] 36)).below hb (by simp; omega)
        have hz3 := (hz.alloc (.cells #[.int .i64 Q.length, .int .i64 (rowAt Q 0), .int .i64 (rowAt Q 1), .int .i64 (rowAt Q 2), .int .i64 (rowAt Q 3)] 36)).below hb (by simp; omega)
        have ho3 := own_keepR (ho.alloc (.cells #[.int .i64 Q.length, .int .i64 (rowAt Q 0), .int .i64 (rowAt Q 1), .int .i64 (rowAt Q 2), .int .i64 (rowAt Q 3)] 36)) hb (fun y hy => ((ho.alloc _).lt y hy).2)
        have B3 := (hB.alloc hB.size (.cells #[.int .i64 Q.length, .int .i64 (rowAt Q 0), .int .i64 (rowAt Q 1), .int .i64 (rowAt Q 2), .int .i64 (rowAt Q 3)] 36)).trans (hb.mono (by have := hB.size; simp; omega))
        have q0 := hr3.cell0
        have q1 := hr3.cell1
        have q2 := hr3.cell2
        have q3 := hr3.cell3
        have q4 := hr3.cell4
        have f0 := hr3.free 0
        have f1 := hr3.free 1
        have f2 := hr3.free 2
        have f3 := hr3.free 3
        have f4 := hr3.free 4
        have hput := hr3.put (eitherL F Q)
        have hgne : g ≠ w.heap.size + 1 + 1 := by omega
        have hzo := fun (W : World) (i : Nat) (v : Value) (h : RelAt W (w.heap.size + 1) []) => h.other (p := ⟨w.heap.size + 1 + 1, i, none⟩) (by simp) v
        have bb := fun (W : World) (i : Nat) (v : Value) (h : Below w.heap.size w W) => h.setCell (p := ⟨w.heap.size + 1 + 1, i, none⟩) (by simp; omega) v
        have so := fun (W : World) (i : Nat) (v : Value) (h : W.ownsRow 0 36 5 (.slice (some ⟨g, 0, none⟩) (m + 1) cap) (m + 1) (powC xs (m + 1))) => own_otherR h (p := ⟨w.heap.size + 1 + 1, i, none⟩) hgne v
        have HP := Lib.hid hput
        clear p0 p1 p2 p3 p4 c0 c1 c2 c3 c4 hr hz ho hB hb hput
        go_wp2
        go_roundw
        case rel =>
          refine ⟨j + 1, by omega, by go_num, ?_, hzo _ _ _ (hzo _ _ _ (hzo _ _ _ (hzo _ _ _ (hzo _ _ _ hz3)))), so _ _ _ (so _ _ _ (so _ _ _ (so _ _ _ (so _ _ _ ho3)))), bb _ _ _ (bb _ _ _ (bb _ _ _ (bb _ _ _ (bb _ _ _ B3))))⟩
          rw [HE.out.1]
          exact HP.out
        case measure => simp [intOf]; omega
      · obtain rfl : j = m - s := by omega
        have p0 := hr.cell0
        have p1 := hr.cell1
        have p2 := hr.cell2
        have p3 := hr.cell3
        have p4 := hr.cell4
        have q0 := hz.cell0
        have q1 := hz.cell1
        have q2 := hz.cell2
        have q3 := hz.cell3
        have q4 := hz.cell4
        have f0 := hz.free 0
        have f1 := hz.free 1
        have f2 := hz.free 2
        have f3 := hz.free 3
        have f4 := hz.free 4
        go_wp2
        have bb := fun (W : World) (i : Nat) (v : Value) (h : Below w.heap.size w W) => h.setCell (p := ⟨w.heap.size + 1, i, none⟩) (Nat.le_succ _) v
        exact bodyPost_ret (v := relOf (fromL xs s (m - s))) (by simp [results, Tryz.results182, go_sem, q0, q1, q2, q3, q4]) rfl ⟨rfl, bb _ _ _ (bb _ _ _ (bb _ _ _ (bb _ _ _ (bb _ _ _ hB))))⟩
end Go.Proofs.YthdnpcpimggjnaaGreatDoor

namespace Go.Proofs.YthdnpcpimggjnaaGreatDoor
open Go.RowKit

end Go.Proofs.YthdnpcpimggjnaaGreatDoor

namespace Go.Proofs.YthdnpcpimggjnaaGreatDoor
open Go.RowKit


set_option maxHeartbeats 4000000 in
theorem CompReach1_any {xs : List Int} (h : Rl xs.length xs) (w : World) :
    Calls Tryz.prog 180 #[relOf xs] w fun e w' => e = .returned (relOf (reachL xs)) ∧ Below w.heap.size w w' := by
  have x1 := (RelAt.new w xs).alloc (.cells #[.int .i64 0, .int .i64 0, .int .i64 0, .int .i64 0, .int .i64 0] 36)
  have z1 := rel_zero (w.alloc (.cells #[.int .i64 xs.length, .int .i64 (rowAt xs 0), .int .i64 (rowAt xs 1), .int .i64 (rowAt xs 2), .int .i64 (rowAt xs 3)] 36))
  have B0 := below_two w (.cells #[.int .i64 xs.length, .int .i64 (rowAt xs 0), .int .i64 (rowAt xs 1), .int .i64 (rowAt xs 2), .int .i64 (rowAt xs 3)] 36) (.cells #[.int .i64 0, .int .i64 0, .int .i64 0, .int .i64 0, .int .i64 0] 36)
  rw [World.size_alloc] at z1
  have H := Lib.hid h
  clear h
  have p0 := x1.cell0
  have p1 := x1.cell1
  have p2 := x1.cell2
  have p3 := x1.cell3
  have p4 := x1.cell4
  go_enter Tryz.func180, Tryz.ntmps180
  go_wp2_with fail
  refine (powersOf_any H.out _).mono ?_
  rintro e w2 ⟨v, m, a, hr, rfl, ho, hb2⟩
  obtain ⟨g, cap, rfl, _, _⟩ := pow_form ho (by omega)
  have hm := new_le H.out m hr.new
  have hlt := hr.lt
  have hE := from_reach H.out hr
  have z2 := z1.below hb2 z1.lt
  have B2 := B0.trans (hb2.mono B0.size)
  have HE := Lib.hid hE
  clear x1 z1 p0 p1 p2 p3 p4 hb2 B0 hE hr
  go_wp2_with fail
  refine (from_any H.out hm g cap 1 (by omega) (by omega) _ (own_mono ho (Nat.zero_le _))).mono ?_
  rintro e w3 ⟨rfl, hb3⟩
  have z3 := z2.below hb3 z2.lt
  have B3 := B2.trans (hb3.mono B2.size)
  have q0 := z3.cell0
  have q1 := z3.cell1
  have q2 := z3.cell2
  have q3 := z3.cell3
  have q4 := z3.cell4
  have f0 := z3.free 0
  have f1 := z3.free 1
  have f2 := z3.free 2
  have f3 := z3.free 3
  have f4 := z3.free 4
  clear hb3 B2 z2 ho
  go_wp2
  have bb := fun (W : World) (i : Nat) (v : Value) (h : Below w.heap.size w W) => h.setCell (p := ⟨w.heap.size + 1, i, none⟩) (Nat.le_succ _) v
  exact bodyPost_ret (v := relOf (fromL xs 1 (m - 1))) (by simp [results, Tryz.results180, go_sem, q0, q1, q2, q3, q4]) rfl ⟨by rw [HE.out], bb _ _ _ (bb _ _ _ (bb _ _ _ (bb _ _ _ (bb _ _ _ B3))))⟩

theorem cf_CompReach (args : Array Value) (w : World) : Sem.run Tryz.prog (callFunc 180 args) w = .ok (.enter 180 args) w := by kernel_rfl
theorem implCompReach_any (ao : Option Addr) (ca : Nat) (xs : List Int) (w : World) (hl : xs.length ≤ 1048576) (hx : Rd w ao xs) :
    Calls Tryz.prog 122 #[.slice ao xs.length ca] w (Gave w (ifR (relIn xs) (reachL xs)) (relIn xs)) := by
  cases hp : relIn xs with
  | false =>
    have h1 := Lib.hid (madeOfOne_no (.func (.func 180) #[] #[]) ao ca xs w hl hx hp)
    clear hp
    go_enter Tryz.func122, Tryz.ntmps122
    go_wp2_with (go_at_call 179; refine h1.out.mono ?_; rintro e w1 ⟨v, rfl, ho, hb⟩)
    go_ret2
    exact ⟨v, rfl, ho, hb⟩
  | true =>
    have R := Rl.of hp
    have h1 := Lib.hid (madeOfOne_yes 180 cf_CompReach reachL ao ca xs w hx hp (R.reach.len) (fun w => CompReach1_any R w))
    clear hp R
    go_enter Tryz.func122, Tryz.ntmps122
    go_wp2_with (go_at_call 179; refine h1.out.mono ?_; rintro e w1 ⟨v, rfl, ho, hb⟩)
    go_ret2
    exact ⟨v, rfl, ho, hb⟩

set_option maxHeartbeats 4000000 in
theorem CompStar1_any {xs : List Int} (h : Rl xs.length xs) (w : World) :
    Calls Tryz.prog 183 #[relOf xs] w fun e w' => e = .returned (relOf (starL xs)) ∧ Below w.heap.size w w' := by
  have x1 := (RelAt.new w xs).alloc (.cells #[.int .i64 0, .int .i64 0, .int .i64 0, .int .i64 0, .int .i64 0] 36)
  have z1 := rel_zero (w.alloc (.cells #[.int .i64 xs.length, .int .i64 (rowAt xs 0), .int .i64 (rowAt xs 1), .int .i64 (rowAt xs 2), .int .i64 (rowAt xs 3)] 36))
  have B0 := below_two w (.cells #[.int .i64 xs.length, .int .i64 (rowAt xs 0), .int .i64 (rowAt xs 1), .int .i64 (rowAt xs 2), .int .i64 (rowAt xs 3)] 36) (.cells #[.int .i64 0, .int .i64 0, .int .i64 0, .int .i64 0, .int .i64 0] 36)
  rw [World.size_alloc] at z1
  have H := Lib.hid h
  clear h
  have p0 := x1.cell0
  have p1 := x1.cell1
  have p2 := x1.cell2
  have p3 := x1.cell3
  have p4 := x1.cell4
  go_enter Tryz.func183, Tryz.ntmps183
  go_wp2_with fail
  refine (powersOf_any H.out _).mono ?_
  rintro e w2 ⟨v, m, a, hr, rfl, ho, hb2⟩
  obtain ⟨g, cap, rfl, _, _⟩ := pow_form ho (by omega)
  have hm := new_le H.out m hr.new
  have hlt := hr.lt
  have hE : fromL xs 0 (m - 0) = starL xs := from_star H.out hr
  have z2 := z1.below hb2 z1.lt
  have B2 := B0.trans (hb2.mono B0.size)
  have HE := Lib.hid hE
  clear x1 z1 p0 p1 p2 p3 p4 hb2 B0 hE hr
  go_wp2_with fail
  refine (from_any H.out hm g cap 0 (by omega) (by omega) _ (own_mono ho (Nat.zero_le _))).mono ?_
  rintro e w3 ⟨rfl, hb3⟩
  have z3 := z2.below hb3 z2.lt
  have B3 := B2.trans (hb3.mono B2.size)
  have q0 := z3.cell0
  have q1 := z3.cell1
  have q2 := z3.cell2
  have q3 := z3.cell3
  have q4 := z3.cell4
  have f0 := z3.free 0
  have f1 := z3.free 1
  have f2 := z3.free 2
  have f3 := z3.free 3
  have f4 := z3.free 4
  clear hb3 B2 z2 ho
  go_wp2
  have bb := fun (W : World) (i : Nat) (v : Value) (h : Below w.heap.size w W) => h.setCell (p := ⟨w.heap.size + 1, i, none⟩) (Nat.le_succ _) v
  exact bodyPost_ret (v := relOf (fromL xs 0 (m - 0))) (by simp [results, Tryz.results183, go_sem, q0, q1, q2, q3, q4]) rfl ⟨by rw [HE.out], bb _ _ _ (bb _ _ _ (bb _ _ _ (bb _ _ _ (bb _ _ _ B3))))⟩

/-- powers and where they come round, as a value and its memory -/
def PwIs (b : List Int) (w : World) (g cap m : Nat) : Prop := m ≤ 65536 ∧ fromL b 0 (m - 0) = starL b ∧ w.ownsRow 0 36 5 (.slice (some ⟨g, 0, none⟩) (m + 1) cap) (m + 1) (powC b (m + 1))
theorem powers_is {b : List Int} (h : Rl b.length b) (w : World) :
    Calls Tryz.prog 181 #[relOf b] w fun e w' => ∃ g cap m a, e = .returned (plV g cap m a) ∧ PwIs b w' g cap m ∧ Below w.heap.size w w' := by
  refine (powersOf_any h w).mono ?_
  rintro e w2 ⟨v, m, a, hr, rfl, ho, hb2⟩
  obtain ⟨g, cap, rfl, _, _⟩ := pow_form ho (by omega)
  exact ⟨g, cap, m, a, rfl, ⟨new_le h m hr.new, from_star h hr, own_mono ho (Nat.zero_le _)⟩, hb2⟩
theorem from_is {b : List Int} (h : Rl b.length b) (g cap m a : Nat) (w : World) (hp : PwIs b w g cap m) :
    Calls Tryz.prog 182 #[plV g cap m a, .int .i64 0] w fun e w' => e = .returned (relOf (starL b)) ∧ Below w.heap.size w w' := by
  have := from_any (a := a) h hp.1 g cap 0 (by omega) (by omega) w hp.2.2
  rw [hp.2.1] at this
  exact this

theorem cf_CompStar (args : Array Value) (w : World) : Sem.run Tryz.prog (callFunc 183 args) w = .ok (.enter 183 args) w := by kernel_rfl
theorem implCompStar_any (ao : Option Addr) (ca : Nat) (xs : List Int) (w : World) (hl : xs.length ≤ 1048576) (hx : Rd w ao xs) :
    Calls Tryz.prog 123 #[.slice ao xs.length ca] w (Gave w (ifR (relIn xs) (starL xs)) (relIn xs)) := by
  cases hp : relIn xs with
  | false =>
    have h1 := Lib.hid (madeOfOne_no (.func (.func 183) #[] #[]) ao ca xs w hl hx hp)
    clear hp
    go_enter Tryz.func123, Tryz.ntmps123
    go_wp2_with (go_at_call 179; refine h1.out.mono ?_; rintro e w1 ⟨v, rfl, ho, hb⟩)
    go_ret2
    exact ⟨v, rfl, ho, hb⟩
  | true =>
    have R := Rl.of hp
    have h1 := Lib.hid (madeOfOne_yes 183 cf_CompStar starL ao ca xs w hx hp (R.star.len) (fun w => CompStar1_any R w))
    clear hp R
    go_enter Tryz.func123, Tryz.ntmps123
    go_wp2_with (go_at_call 179; refine h1.out.mono ?_; rintro e w1 ⟨v, rfl, ho, hb⟩)
    go_ret2
    exact ⟨v, rfl, ho, hb⟩

/-! the model's star -/
theorem mix_zipE {xs ys zs : List Int} {j : Nat} (h : Mix xs (eitherL xs ys) j zs) (hj : j < xs.length) (hy : j < ys.length) :
    Mix xs (eitherL xs ys) (j + 1) (zs.set j (bits .or .i64 (rowAt xs j) (rowAt ys j))) := h.step hj (zip_at _ _ _ _ hj hy)
theorem pt_wrapE (k : Nat) (h : k < 4) : wrap64 (2 ^ k) = pt k := by
  rcases (by omega : k = 0 ∨ k = 1 ∨ k = 2 ∨ k = 3) with rfl | rfl | rfl | rfl <;> decide +kernel

end Go.Proofs.YthdnpcpimggjnaaGreatDoor

namespace Go.Proofs.YthdnpcpimggjnaaGreatDoor
open Go.RowKit

theorem b_andnot : ∀ z y : Fin 16, (bits .andNot .i64 (z.val : Int) (y.val : Int) = 0) ↔ ∀ j : Fin 4, hasB (z.val : Int) j.val = true → hasB (y.val : Int) j.val = true := by decide +kernel
theorem b_out : ∀ n : Fin 5, ∀ z : Fin 16, z.val < 2 ^ n.val → ∀ j : Fin 4, ¬ j.val < n.val → hasB (z.val : Int) j.val = false := by decide +kernel
theorem below_iff {n : Nat} {xs ys : List Int} (h : Rl n xs) (k : Rl n ys) : belowB xs ys = true ↔ ∀ i j, i < n → j < n → hB xs i j = true → hB ys i j = true := by
  have hl : (zipI (bits .andNot .i64) xs ys).length = n := by unfold zipI; rw [List.length_zipWith, h.len, k.len, Nat.min_self]
  have key : belowB xs ys = true ↔ ∀ i, i < n → bits .andNot .i64 (rowAt xs i) (rowAt ys i) = 0 := by
    unfold belowB
    rw [List.all_eq_true]
    constructor
    · intro hA i hi
      have hm := rowAt_get (xs := zipI (bits .andNot .i64) xs ys) (k := i) (by rw [hl]; exact hi)
      have := hA _ (List.mem_of_getElem? hm)
      rw [zipAt _ _ _ _ (by rw [h.len]; exact hi) (by rw [k.len]; exact hi)] at this
      simpa using this
    · intro hA x hx
      obtain ⟨i, hi, rfl⟩ := List.mem_iff_getElem.1 hx
      have hm := rowAt_get (xs := zipI (bits .andNot .i64) xs ys) (k := i) hi
      rw [List.getElem?_eq_getElem hi, zipAt _ _ _ _ (by rw [h.len]; omega) (by rw [k.len]; omega)] at hm
      rw [Option.some.inj hm, hA i (by omega)]
      rfl
  rw [key]
  have h4 := h.four
  constructor
  · intro hA i j hi hj e
    obtain ⟨z, hz, _⟩ := h.row i
    obtain ⟨y, hy, _⟩ := k.row i
    have := hA i hi
    rw [hz, hy] at this
    have h2 := (b_andnot z y).1 this ⟨j, by omega⟩
    unfold hB at e ⊢
    rw [hz] at e
    rw [hy]
    exact h2 e
  · intro hA i hi
    obtain ⟨z, hz, hzl⟩ := h.row i
    obtain ⟨y, hy, _⟩ := k.row i
    rw [hz, hy, b_andnot]
    intro j e
    by_cases hj : j.val < n
    · have := hA i j.val hi hj (by unfold hB; rw [hz]; exact e)
      unfold hB at this
      rw [hy] at this
      exact this
    · exact absurd e (by rw [b_out ⟨n, by omega⟩ z hzl j (by simpa using hj)]; simp)
/-- what composes below another one does so turned, with others -/
theorem schroeder {n : Nat} {a b : List Int} (h : Rl n a) (k : Rl n b) : belowB (compL (turnL a) (otherL (compL a b))) (otherL b) = true := by
  have hc := h.comp k
  rw [below_iff (h.turn.comp hc.other) k.other]
  intro i j hi hj e
  obtain ⟨l, hl, e1, e2⟩ := (hB_comp h.turn hc.other i j hi hj).1 e
  rw [hB_turn h i l hi hl] at e1
  rw [hB_other hc l j hl hj] at e2
  rw [hB_other k i j hi hj]
  cases hb : hB b i j with
  | false => rfl
  | true =>
    have : hB (compL a b) l j = true := (hB_comp h k l j hl hj).2 ⟨i, hi, e1, hb⟩
    rw [this] at e2
    cases e2
theorem left_iff {n : Nat} {a b : List Int} (h : Rl n a) (k : Rl n b) (i j : Nat) (hi : i < n) (hj : j < n) : hB (leftL a b) i j = true ↔ ∀ l, l < n → hB a l i = true → hB b l j = true := by
  unfold leftL
  rw [hB_other (h.turn.comp k.other) i j hi hj, Bool.not_eq_true']
  constructor
  · intro e l hl ea
    cases hb : hB b l j with
    | true => rfl
    | false =>
      have : hB (compL (turnL a) (otherL b)) i j = true := (hB_comp h.turn k.other i j hi hj).2 ⟨l, hl, by rw [hB_turn h i l hi hl]; exact ea, by rw [hB_other k l j hl hj, hb]; rfl⟩
      rw [this] at e
      cases e
  · intro hA
    cases hc : hB (compL (turnL a) (otherL b)) i j with
    | false => rfl
    | true =>
      obtain ⟨l, hl, e1, e2⟩ := (hB_comp h.turn k.other i j hi hj).1 hc
      rw [hB_turn h i l hi hl] at e1
      rw [hB_other k l j hl hj, hA l hl e1] at e2
      cases e2
/-- left residuals compose below -/
theorem left_below {n : Nat} {a b : List Int} (h : Rl n a) (k : Rl n b) : belowB (compL a (leftL a b)) b = true := by
  rw [below_iff (h.comp (h.left k)) k]
  intro i j hi hj e
  obtain ⟨l, hl, e1, e2⟩ := (hB_comp h (h.left k) i j hi hj).1 e
  exact (left_iff h k l j hl hj).1 e2 i hi e1
theorem left_back {n : Nat} {a b : List Int} (h : Rl n a) (k : Rl n b) : belowB b (leftL a (compL a b)) = true := by
  rw [below_iff k (h.left (h.comp k))]
  intro i j hi hj e
  rw [left_iff h (h.comp k) i j hi hj]
  intro l hl ea
  exact (hB_comp h k l j hl hj).2 ⟨i, hi, ea, e⟩
theorem right_below {n : Nat} {a b : List Int} (h : Rl n a) (k : Rl n b) : belowB (compL (rightL a b) a) b = true := by
  rw [below_iff ((h.right k).comp h) k]
  intro i j hi hj e
  obtain ⟨l, hl, e1, e2⟩ := (hB_comp (h.right k) h i j hi hj).1 e
  unfold rightL at e1
  rw [hB_other (k.other.comp h.turn) i l hi hl, Bool.not_eq_true'] at e1
  cases hb : hB b i j with
  | true => rfl
  | false =>
    have : hB (compL (otherL b) (turnL a)) i l = true := (hB_comp k.other h.turn i l hi hl).2 ⟨j, hj, by rw [hB_other k i j hi hj, hb]; rfl, by rw [hB_turn h j l hj hl]; exact e2⟩
    rw [this] at e1
    cases e1
/-- a power of powers -/
theorem pow_add {xs : List Int} (h : Rl xs.length xs) (i j : Nat) (hi : i < xs.length) (hj : j < xs.length) (s t l : Nat) (hl : l < xs.length) (e1 : hB (powL xs s) i l = true) (e2 : hB (powL xs t) l j = true) : hB (powL xs (s + t)) i j = true := by
  induction t generalizing j with
  | zero =>
    have h2 : hB (sameL xs.length) l j = true := e2
    rw [hB_same h.four l j hl hj] at h2
    have := of_decide_eq_true h2
    subst this
    exact e1
  | succ t ih =>
    obtain ⟨m, hm, f1, f2⟩ := (hB_comp (h.pow t) h l j hl hj).1 e2
    exact (hB_comp (h.pow (s + t)) h i j hi hj).2 ⟨m, hm, ih m hm f1, f2⟩
theorem reach_trans {xs : List Int} (h : Rl xs.length xs) : belowB (compL (reachL xs) (reachL xs)) (reachL xs) = true := by
  rw [below_iff (h.reach.comp h.reach) h.reach]
  intro i j hi hj e
  obtain ⟨l, hl, e1, e2⟩ := (hB_comp h.reach h.reach i j hi hj).1 e
  obtain ⟨s, hs, f1⟩ := (hB_reach h i l hi hl).1 e1
  obtain ⟨t, _, f2⟩ := (hB_reach h l j hl hj).1 e2
  exact (hB_reach h i j hi hj).2 ⟨s + t, by omega, pow_add h i j hi hj s t l hl f1 f2⟩
theorem reach_has {xs : List Int} (h : Rl xs.length xs) : belowB xs (reachL xs) = true := by
  rw [below_iff h h.reach]
  intro i j hi hj e
  exact (hB_reach h i j hi hj).2 ⟨1, Nat.le_refl _, by rw [hB_pow1 h i j hi hj]; exact e⟩
/-- what is reached again is what was reached -/
theorem reach_reach {xs : List Int} (h : Rl xs.length xs) : reachL (reachL xs) = reachL xs := by
  have hr := h.reach
  have hlen := hr.len
  have h2 : Rl (reachL xs).length (reachL xs) := by rw [hlen]; exact hr
  have h3 : Rl xs.length (reachL (reachL xs)) := by have := h2.reach; rw [hlen] at this; exact this
  refine h3.ext hr fun i j hi hj => ?_
  rw [Bool.eq_iff_iff, hB_reach h2 i j (by omega) (by omega)]
  constructor
  · rintro ⟨t, ht, e⟩
    have key : ∀ t, 1 ≤ t → ∀ j, j < xs.length → hB (powL (reachL xs) t) i j = true → hB (reachL xs) i j = true := by
      intro t
      induction t with
      | zero => intro h0; omega
      | succ t ih =>
        intro _ j hj e
        obtain ⟨l, hl, f1, f2⟩ := (hB_comp (h2.pow t) h2 i j (by omega) (by omega)).1 e
        rw [hlen] at hl
        by_cases h0 : t = 0
        · subst h0
          have f3 : hB (sameL (reachL xs).length) i l = true := f1
          rw [hB_same h2.four i l (by omega) (by omega)] at f3
          have := of_decide_eq_true f3
          subst this
          exact f2
        · have g1 := ih (by omega) l hl f1
          exact (below_iff (hr.comp hr) hr).1 (reach_trans h) i j hi hj ((hB_comp hr hr i j hi hj).2 ⟨l, hl, g1, f2⟩)
    exact key t ht j hj e
  · intro e
    exact ⟨1, Nat.le_refl _, by rw [hB_pow1 h2 i j (by omega) (by omega)]; exact e⟩
end Go.Proofs.YthdnpcpimggjnaaGreatDoor

namespace Go.Proofs.YthdnpcpimggjnaaGreatDoor
open Go.RowKit Go.Shelf
attribute [local go_sem] Oper.semAt_some

/-- the ends of a relation -/
def startsOf (xs : List Int) : Int := endsS xs.length (pairsOf xs)
def targetsOf (xs : List Int) : Int := endsT xs.length (pairsOf xs)

theorem below_drewN' {B : Nat} {a w : World} (h : Below B a w) (n : Nat) : Below B a (w.drewN n) := h.trans ⟨rfl, rfl, rfl, Nat.le_refl _, fun _ _ => rfl⟩

theorem ends_post (W : World) (b1 b2 b3 : Nat) (t : TypeId) (B : Nat) (v1 v2 : Int) {u1 u2 : Value} {xs : List Int} (h12 : b1 ≠ b2) (h13 : b1 ≠ b3) (h23 : b2 ≠ b3) (hB1 : B ≤ b1) (hB2 : B ≤ b2)
    (h1 : Boxed W b1 t u1) (h2 : Boxed W b2 t u2) (h3 : RelAt W b3 xs) :
    KeepsOthers W (((W.setCell ⟨b1, 0, none⟩ (.int .i64 v1)).setCell ⟨b2, 0, none⟩ (.int .i64 v2)).drew) ∧ KeepB b3 W (((W.setCell ⟨b1, 0, none⟩ (.int .i64 v1)).setCell ⟨b2, 0, none⟩ (.int .i64 v2)).drew) ∧
      Boxed (((W.setCell ⟨b1, 0, none⟩ (.int .i64 v1)).setCell ⟨b2, 0, none⟩ (.int .i64 v2)).drew) b1 t (.int .i64 v1) ∧ Boxed (((W.setCell ⟨b1, 0, none⟩ (.int .i64 v1)).setCell ⟨b2, 0, none⟩ (.int .i64 v2)).drew) b2 t (.int .i64 v2) ∧
      RelAt (((W.setCell ⟨b1, 0, none⟩ (.int .i64 v1)).setCell ⟨b2, 0, none⟩ (.int .i64 v2)).drew) b3 xs ∧ Below B W (((W.setCell ⟨b1, 0, none⟩ (.int .i64 v1)).setCell ⟨b2, 0, none⟩ (.int .i64 v2)).drew) := by
  have k3 : ((W.setCell ⟨b1, 0, none⟩ (.int .i64 v1)).setCell ⟨b2, 0, none⟩ (.int .i64 v2)).heap[b3]? = W.heap[b3]? :=
    (Below.heap_setCell _ ⟨b2, 0, none⟩ _ b3 (fun e => h23 e.symm)).trans (Below.heap_setCell _ ⟨b1, 0, none⟩ _ b3 (fun e => h13 e.symm))
  have m2 : Boxed (W.setCell ⟨b1, 0, none⟩ (.int .i64 v1)) b2 t u2 := h2.other (fun e => h12 e.symm) _
  refine ⟨((KeepsOthers.setCell _ _ _).trans (KeepsOthers.setCell _ _ _)).trans (KeepsOthers.drew _), k3, ?_, ?_, Eq.trans k3 h3, (((Below.refl B W).setCell (p := ⟨b1, 0, none⟩) hB1 _).setCell (p := ⟨b2, 0, none⟩) hB2 _).drew⟩
  · exact (h1.set (.int .i64 v1)).other h12 _
  · exact m2.set (.int .i64 v2)

end Go.Proofs.YthdnpcpimggjnaaGreatDoor

namespace Go.Proofs.YthdnpcpimggjnaaGreatDoor
open Go.RowKit

theorem b_ext4 : ∀ y z : Fin 16, (∀ j : Fin 4, hasB (y.val : Int) j.val = hasB (z.val : Int) j.val) → y = z := by decide +kernel
theorem fold_ends {n : Nat} (h4 : n ≤ 4) (f : Fin n × Fin n → Fin n) : ∀ (l : List (Fin n × Fin n)) (s : Fin 16), ∃ z : Fin 16, l.foldl (fun s p => bits .or .i64 s (pt (f p).val)) (s.val : Int) = (z.val : Int) ∧
      ∀ j : Fin 4, (hasB (z.val : Int) j.val = true ↔ (hasB (s.val : Int) j.val = true ∨ ∃ p, p ∈ l ∧ (f p).val = j.val))
  | [], s => ⟨s, rfl, fun j => ⟨fun h => .inl h, fun h => h.elim id (fun ⟨p, hp, _⟩ => absurd hp (by simp))⟩⟩
  | q :: r, s => by
    rw [List.foldl_cons]
    obtain ⟨y, hy, _⟩ := b_ptlt ⟨4, by omega⟩ ⟨(f q).val, by have := (f q).isLt; show (f q).val < 4; omega⟩
    obtain ⟨u, hu⟩ := or1616 s y
    dsimp only at hy
    rw [hy, hu]
    obtain ⟨z, hz, hz2⟩ := fold_ends h4 f r u
    refine ⟨z, hz, fun j => ?_⟩
    have hor := b_or s y j
    rw [hu] at hor
    have hpt := b_pt ⟨(f q).val, by have := (f q).isLt; omega⟩ j
    dsimp only at hpt
    rw [hy] at hpt
    rw [hz2 j, hor, Bool.or_eq_true, hpt, decide_eq_true_iff]
    constructor
    · rintro ((h | h) | ⟨p, hp, h1⟩)
      · exact .inl h
      · exact .inr ⟨q, List.mem_cons_self, h.symm⟩
      · exact .inr ⟨p, List.mem_cons_of_mem _ hp, h1⟩
    · rintro (h | ⟨p, hp, h1⟩)
      · exact .inl (.inl h)
      · rcases List.mem_cons.1 hp with rfl | hp
        · exact .inl (.inr h1.symm)
        · exact .inr ⟨p, hp, h1⟩
theorem ends_eq {n : Nat} (h4 : n ≤ 4) (f g : Fin n × Fin n → Fin n) (l r : List (Fin n × Fin n)) (h : ∀ j : Nat, (∃ p, p ∈ l ∧ (f p).val = j) ↔ ∃ p, p ∈ r ∧ (g p).val = j) :
    l.foldl (fun s p => bits .or .i64 s (pt (f p).val)) 0 = r.foldl (fun s p => bits .or .i64 s (pt (g p).val)) 0 := by
  obtain ⟨y, hy, hy2⟩ := fold_ends h4 f l 0
  obtain ⟨z, hz, hz2⟩ := fold_ends h4 g r 0
  have e : y = z := b_ext4 y z fun j => by rw [Bool.eq_iff_iff, hy2 j, hz2 j, h j.val]
  rw [e] at hy
  exact hy.trans hz.symm
theorem ends_turn {xs : List Int} (h : relIn xs = true) : startsOf (turnL xs) = targetsOf xs ∧ targetsOf (turnL xs) = startsOf xs := by
  have R := Rl.of h
  have h4 := R.four
  have key : ∀ (ys : List Int) (e : ys.length = xs.length), ys = turnL xs → startsOf ys = targetsOf xs ∧ targetsOf ys = startsOf xs := by
    intro ys e hy
    obtain ⟨n, hn⟩ : ∃ n, n = xs.length := ⟨_, rfl⟩
    have hP : ∀ (zs : List Int) (m : Nat) (_ : m ≤ 4) (hm : zs.length = m), startsOf zs = endsS m (pairsTo m zs (m * m)) ∧ targetsOf zs = endsT m (pairsTo m zs (m * m)) ∧ ∀ p : Fin m × Fin m, p ∈ pairsTo m zs (m * m) ↔ hB zs p.1.val p.2.val = true := by
      intro zs m hm4 hm
      subst hm
      exact ⟨rfl, rfl, fun p => mem_pairs hm4 p⟩
    obtain ⟨a1, a2, a3⟩ := hP ys xs.length h4 e
    obtain ⟨c1, c2, c3⟩ := hP xs xs.length h4 rfl
    rw [a1, a2, c1, c2]
    have hsw : ∀ p : Fin xs.length × Fin xs.length, p ∈ pairsTo xs.length ys (xs.length * xs.length) ↔ (p.2, p.1) ∈ pairsTo xs.length xs (xs.length * xs.length) := by
      intro p
      rw [a3, c3, hy, hB_turn R _ _ p.1.isLt p.2.isLt]
    constructor
    · exact ends_eq h4 (fun p => p.1) (fun p => p.2) _ _ fun j => ⟨fun ⟨p, hp, e⟩ => ⟨(p.2, p.1), (hsw p).1 hp, e⟩, fun ⟨p, hp, e⟩ => ⟨(p.2, p.1), (hsw (p.2, p.1)).2 hp, e⟩⟩
    · exact ends_eq h4 (fun p => p.2) (fun p => p.1) _ _ fun j => ⟨fun ⟨p, hp, e⟩ => ⟨(p.2, p.1), (hsw p).1 hp, e⟩, fun ⟨p, hp, e⟩ => ⟨(p.2, p.1), (hsw (p.2, p.1)).2 hp, e⟩⟩
  exact key _ (turnL_len xs) rfl
end Go.Proofs.YthdnpcpimggjnaaGreatDoor

namespace Go.Proofs.YthdnpcpimggjnaaGreatDoor
open Go.RowKit

/-- a slice of bytes that came in reads as bytes -/
theorem rdB_of_row {w : World} {a : Option Addr} {len cap : Nat} {zs : List Int}
    (h : (a = none ∧ len = 0 ∧ cap = 0 ∧ zs = []) ∨
      ∃ x, a = some x ∧ len ≤ cap ∧ cap ≤ maxLen ∧ zs.length = cap ∧ (∀ i, i < zs.length → w.cell? (x.add i) = some (.int .u8 (zs.getD i 0))) ∧ ∀ n ∈ zs, (Lit.int .u8 n).wf = true) :
    ∃ bs : List Nat, bs.length = len ∧ len ≤ maxLen ∧ len ≤ cap ∧ RdB w a bs ∧ (bs ≠ [] → ∀ y, a = some y → y.block < w.heap.size) := by
  rcases h with ⟨rfl, rfl, rfl, rfl⟩ | ⟨x, rfl, hlc, hcm, hz, hc, hwf⟩
  · exact ⟨[], rfl, Nat.zero_le _, Nat.le_refl _, fun k x hx => by simp at hx, fun h => absurd rfl h⟩
  · have key : ∀ k, k < len → (zs.getD k 0).toNat < 256 ∧ ((zs.getD k 0).toNat : Int) = zs.getD k 0 ∧ ∃ b off, x = ⟨b, off, none⟩ ∧ b < w.heap.size ∧ w.cell? ⟨b, off + k, none⟩ = some (.int .u8 (zs.getD k 0)) := by
      intro k hk
      have h1 := hc k (by omega)
      have hm : zs.getD k 0 ∈ zs := by
        rw [List.getD_eq_getElem?_getD, List.getElem?_eq_getElem (by omega)]
        exact List.getElem_mem _
      obtain ⟨y, hy⟩ : ∃ y, zs.getD k 0 = y := ⟨_, rfl⟩
      rw [hy] at hm h1 ⊢
      have hb := hwf _ hm
      simp [Lit.wf, IntKind.min, IntKind.max, IntKind.bits, IntKind.signed] at hb
      refine ⟨by omega, by omega, ?_⟩
      obtain ⟨b, off, sp⟩ := x
      cases sp with
      | none =>
        have hadd : (⟨b, off, none⟩ : Addr).add k = ⟨b, off + k, none⟩ := by unfold Addr.add; split <;> simp_all
        rw [hadd] at h1
        refine ⟨b, off, rfl, ?_, h1⟩
        unfold World.cell? at h1
        cases hh : w.heap[b]? with
        | none => rw [hh] at h1; simp at h1
        | some o => exact (Array.getElem?_eq_some_iff.1 hh).1
      | some s =>
        exfalso
        have h0 := hc 0 (by omega)
        unfold World.cell? Addr.add at h0
        simp at h0
        split at h0 <;> simp_all
    refine ⟨(zs.take len).map Int.toNat, by simp; omega, by omega, hlc, ?_, ?_⟩
    · intro k y hy
      have hk : k < len := by
        have := (List.getElem?_eq_some_iff.1 hy).1
        simp at this
        omega
      obtain ⟨h1, h2, b, off, rfl, h3, h4⟩ := key k hk
      have hy2 : y = (zs.getD k 0).toNat := by
        rw [List.getElem?_map, List.getElem?_take, if_pos hk, List.getElem?_eq_getElem (by omega)] at hy
        have hg : zs.getD k 0 = zs[k]'(by omega) := by rw [List.getD_eq_getElem?_getD, List.getElem?_eq_getElem (by omega)]; rfl
        rw [hg]
        simpa using hy.symm
      rw [hy2]
      exact ⟨h1, b, off, rfl, h3, by rw [h2]; exact h4⟩
    · intro hne y hy
      cases hy
      have hlen : 0 < len := by
        rcases Nat.eq_zero_or_pos len with e | e
        · exact absurd (by rw [e]; rfl) hne
        · exact e
      obtain ⟨_, _, b, off, rfl, h3, _⟩ := key 0 hlen
      exact h3

end Go.Proofs.YthdnpcpimggjnaaGreatDoor

namespace Go.Proofs.YthdnpcpimggjnaaGreatDoor
open Go.RowKit

end Go.Proofs.YthdnpcpimggjnaaGreatDoor

namespace Go.Proofs.YthdnpcpimggjnaaGreatDoor
open Go.RowKit

theorem rl_short {n : Nat} {xs : List Int} (h : Rl n xs) : xs.length ≤ 1048576 := by have := h.len; have := h.four; omega
theorem two_ok {n : Nat} {xs ys : List Int} (h : Rl n xs) (k : Rl n ys) : twoIn xs ys = true := by
  unfold twoIn
  rw [h.ok, k.ok, h.len, k.len]
  simp
theorem cTurn {n : Nat} {xs : List Int} (h : Rl n xs) (ao : Option Addr) (ca : Nat) (w : World) (hx : Rd w ao xs) : Calls Tryz.prog 120 #[.slice ao xs.length ca] w (Gave w (turnL xs) true) := by
  have := implRelTurned_any ao ca xs w (rl_short h) hx
  rw [h.ok] at this
  exact this
theorem cOther {n : Nat} {xs : List Int} (h : Rl n xs) (ao : Option Addr) (ca : Nat) (w : World) (hx : Rd w ao xs) : Calls Tryz.prog 121 #[.slice ao xs.length ca] w (Gave w (otherL xs) true) := by
  have := implRelOther_any ao ca xs w (rl_short h) hx
  rw [h.ok] at this
  exact this
theorem cComp {n : Nat} {xs ys : List Int} (h : Rl n xs) (k : Rl n ys) (ao bo : Option Addr) (ca cb : Nat) (w : World) (hx : Rd w ao xs) (hy : Rd w bo ys) : Calls Tryz.prog 152 #[.slice ao xs.length ca, .slice bo ys.length cb] w (Gave w (compL xs ys) true) := by
  have := implCompOf_any ao bo ca cb xs ys w (rl_short h) (rl_short k) hx hy
  rw [two_ok h k] at this
  exact this
theorem cLeft {n : Nat} {xs ys : List Int} (h : Rl n xs) (k : Rl n ys) (ao bo : Option Addr) (ca cb : Nat) (w : World) (hx : Rd w ao xs) (hy : Rd w bo ys) : Calls Tryz.prog 153 #[.slice ao xs.length ca, .slice bo ys.length cb] w (Gave w (leftL xs ys) true) := by
  have := implCompLeft_any ao bo ca cb xs ys w (rl_short h) (rl_short k) hx hy
  rw [two_ok h k] at this
  exact this
theorem cReach {xs : List Int} (h : Rl xs.length xs) (ao : Option Addr) (ca : Nat) (w : World) (hx : Rd w ao xs) : Calls Tryz.prog 122 #[.slice ao xs.length ca] w (Gave w (reachL xs) true) := by
  have := implCompReach_any ao ca xs w (rl_short h) hx
  rw [h.ok] at this
  exact this
end Go.Proofs.YthdnpcpimggjnaaGreatDoor
