/-
  The program's CompReach and CompStar; for lists of at most 2^20 numbers.
-/
import Derived.Test.YtcdiicckngndcabEG
import Derived.Deep.RegionHeld3
import Derived.Test.YtcdiicckngndcabEB
import Derived.Test.YtcdiicckngndcabEF
namespace Go.Proofs.Ytcdiicckngndcab
open Go.RowKit

/-- a list of powers as the program's value -/
abbrev plV (g cap m a : Nat) : Value := .agg #[.slice (some ⟨g, 0, none⟩) (m + 1) cap, .int .i64 a]

theorem wrap_of (x : Int) (h1 : -1048576 ≤ x) (h2 : x ≤ 1048576) : IntKind.i64.wrap x = x := by
  simp only [IntKind.wrap, IntKind.bits, IntKind.signed]
  simp only [Bool.true_and]
  by_cases h : 0 ≤ x
  · rw [if_neg (by intro hh; have := of_decide_eq_true hh; omega)]
    omega
  · rw [if_pos (by apply decide_eq_true; omega)]
    omega

/-- a block that holds a list of powers -/
def PbAt (w : World) (b : Nat) (v : Value) (a : Int) : Prop := w.heap[b]? = some (.cells #[v, .int .i64 a] 102 (0, 0))
theorem PbAt.new (w : World) (v : Value) (a : Int) : PbAt (w.alloc (.cells #[v, .int .i64 a] 102)) w.heap.size v a := heap_alloc_new w _
theorem PbAt.lt {w : World} {b : Nat} {v : Value} {a : Int} (h : PbAt w b v a) : b < w.heap.size := (Array.getElem?_eq_some_iff.1 h).1
theorem PbAt.alloc {w : World} {b : Nat} {v : Value} {a : Int} (h : PbAt w b v a) (o : Obj) : PbAt (w.alloc o) b v a := (Below.heap_alloc w o b h.lt).trans h
theorem PbAt.drew {w : World} {b : Nat} {v : Value} {a : Int} (h : PbAt w b v a) : PbAt w.drew b v a := h
theorem PbAt.below {w w' : World} {B b : Nat} {v : Value} {a : Int} (h : PbAt w b v a) (hb : Below B w w') (hlt : b < B) : PbAt w' b v a := (hb.block b hlt).trans h
theorem PbAt.other {w : World} {b : Nat} {v : Value} {a : Int} (h : PbAt w b v a) {p : Addr} (hp : b ≠ p.block) (u : Value) : PbAt (w.setCell p u) b v a := (Below.heap_setCell w p u b hp).trans h
theorem PbAt.cell0 {w : World} {b : Nat} {v : Value} {a : Int} (h : PbAt w b v a) : w.cell? ⟨b, 0, none⟩ = some v := by
  unfold PbAt at h
  simp [World.cell?, h]
theorem PbAt.cell1 {w : World} {b : Nat} {v : Value} {a : Int} (h : PbAt w b v a) : w.cell? ⟨b, 1, none⟩ = some (.int .i64 a) := by
  unfold PbAt at h
  simp [World.cell?, h]
end Go.Proofs.Ytcdiicckngndcab

namespace Go.Proofs.Ytcdiicckngndcab
open Go.RowKit

theorem eitherR {n : Nat} {xs ys : List Int} (h : Rl n xs) (k : Rl n ys) (w : World) : Calls Try.prog 70 #[relOf xs, relOf ys] w fun e w' => e = .returned (relOf (eitherL xs ys)) ∧ Below w.heap.size w w' := either_any xs ys w (h.len.symm ▸ h.four) (h.len.trans k.len.symm)

theorem own_otherR {w : World} {e : TypeId} {size lo n g cap : Nat} {us : List Value} (h : w.ownsRow lo e size (.slice (some ⟨g, 0, none⟩) n cap) n us) {p : Addr} (hp : g ≠ p.block) (v : Value) : (w.setCell p v).ownsRow lo e size (.slice (some ⟨g, 0, none⟩) n cap) n us := by
  refine ⟨h.1, ?_⟩
  rcases h.2 with h2 | ⟨g', cap', cur, he, h2, h3, h4⟩
  · exact .inl h2
  · cases he
    exact .inr ⟨g, cap, cur, rfl, h2, (Below.heap_setCell w p v g hp).trans h3, h4⟩

set_option maxRecDepth 100000 in
set_option maxHeartbeats 8000000 in
theorem from_any {xs : List Int} {m a : Nat} (h : Rl xs.length xs) (hm : m ≤ 65536) (g cap s : Nat) (hs : s ≤ 1) (hsm : s ≤ m) (w : World) (ho : w.ownsRow 0 47 5 (.slice (some ⟨g, 0, none⟩) (m + 1) cap) (m + 1) (powC xs (m + 1))) :
    Calls Try.prog 94 #[plV g cap m a, .int .i64 s] w fun e w' => e = .returned (relOf (fromL xs s (m - s))) ∧ Below w.heap.size w w' := by
  have hg := (ho.lt g rfl).2
  have hcap : m + 1 ≤ cap := by
    rcases ho.2 with ⟨h, _⟩ | ⟨g', cap', cur, he, _, _, hle, _⟩
    · cases h
    · cases he
      exact hle
  have H := Lib.hid h
  clear h
  by_cases hcs : cap = s + 1
  · subst hcs
    have ho2 := (ho.alloc (.cells #[.slice (some ⟨g, 0, none⟩) (m + 1) (s + 1), .int .i64 a] 102)).alloc (.cells #[.int .i64 0, .int .i64 0, .int .i64 0, .int .i64 0, .int .i64 0] 47)
    obtain ⟨c0, c1, c2, c3, c4⟩ := pow_cells ho2 s (by omega)
    have hi1 : (s : Int) < (m : Int) + 1 := by omega
    have hi2 : (s : Int) < ((m + 1 : Nat) : Int) := by omega
    have hi3 : (s : Int) + 1 ≤ (m : Int) + 1 := by omega
    have z1 := rel_zero (w.alloc (.cells #[.slice (some ⟨g, 0, none⟩) (m + 1) (s + 1), .int .i64 a] 102))
    have B0 := below_two w (.cells #[.slice (some ⟨g, 0, none⟩) (m + 1) (s + 1), .int .i64 a] 102) (.cells #[.int .i64 0, .int .i64 0, .int .i64 0, .int .i64 0, .int .i64 0] 47)
    rw [World.size_alloc] at z1
    have r2 := RelAt.new ((w.alloc (.cells #[.slice (some ⟨g, 0, none⟩) (m + 1) (s + 1), .int .i64 a] 102)).alloc (.cells #[.int .i64 0, .int .i64 0, .int .i64 0, .int .i64 0, .int .i64 0] 47)) (powL xs s)
    rw [World.size_alloc, World.size_alloc] at r2
    have z2 := z1.alloc (.cells #[.int .i64 (powL xs s).length, .int .i64 (rowAt (powL xs s) 0), .int .i64 (rowAt (powL xs s) 1), .int .i64 (rowAt (powL xs s) 2), .int .i64 (rowAt (powL xs s) 3)] 47)
    have ho3 := ho2.alloc (.cells #[.int .i64 (powL xs s).length, .int .i64 (rowAt (powL xs s) 0), .int .i64 (rowAt (powL xs s) 1), .int .i64 (rowAt (powL xs s) 2), .int .i64 (rowAt (powL xs s) 3)] 47)
    have B1 := B0.alloc B0.size (.cells #[.int .i64 (powL xs s).length, .int .i64 (rowAt (powL xs s) 0), .int .i64 (rowAt (powL xs s) 1), .int .i64 (rowAt (powL xs s) 2), .int .i64 (rowAt (powL xs s) 3)] 47)
    have HF := Lib.hid (And.intro r2 (And.intro z2 (And.intro ho3 B1)))
    clear r2 z2 ho3 B1 B0 z1 ho2 ho
    go_enter Try.func94, Try.ntmps94
    go_wp2
    have r2 := HF.out.1
    have z2 := HF.out.2.1
    have ho3 := HF.out.2.2.1
    have B1 := HF.out.2.2.2
    clear HF c0 c1 c2 c3 c4 hi1 hi2 hi3
    go_loopw [19, 7] (fun i _ W => ∃ j : Nat, j ≤ m - s ∧ i = .int .i64 j ∧ RelAt W (w.heap.size + 1 + 1) (fromL xs s j) ∧ RelAt W (w.heap.size + 1) [] ∧ W.ownsRow 0 47 5 (.slice (some ⟨g, 0, none⟩) (m + 1) (s + 1)) (m + 1) (powC xs (m + 1)) ∧ Below w.heap.size w W)
      (fun i _ _ => m - s - (intOf i).toNat)
    case atStart => exact ⟨0, Nat.zero_le _, rfl, r2, z2, ho3, B1⟩
    case round =>
      clear r2 z2 ho3 B1
      obtain ⟨j, hj, rfl, hr, hz, ho, hB⟩ := hrel
      have hgW := (ho.lt g rfl).2
      by_cases hlt : j < m - s
      · exfalso
        omega
      · obtain rfl : j = m - s := by omega
        have p0 := hr.cell0
        have p1 := hr.cell1
        have p2 := hr.cell2
        have p3 := hr.cell3
        have p4 := hr.cell4
        have q0 := hz.cell0
        have q1 := hz.cell1
        have q2 := hz.cell2
        have q3 := hz.cell3
        have q4 := hz.cell4
        have f0 := hz.free 0
        have f1 := hz.free 1
        have f2 := hz.free 2
        have f3 := hz.free 3
        have f4 := hz.free 4
        go_wp2
        have bb := fun (W : World) (i : Nat) (v : Value) (h : Below w.heap.size w W) => h.setCell (p := ⟨w.heap.size + 1, i, none⟩) (Nat.le_succ _) v
        exact bodyPost_ret (v := relOf (fromL xs s (m - s))) (by simp [results, Try.results94, go_sem, q0, q1, q2, q3, q4]) rfl ⟨rfl, bb _ _ _ (bb _ _ _ (bb _ _ _ (bb _ _ _ (bb _ _ _ hB))))⟩
  · have ho2 := (ho.alloc (.cells #[.slice (some ⟨g, 0, none⟩) (m + 1) cap, .int .i64 a] 102)).alloc (.cells #[.int .i64 0, .int .i64 0, .int .i64 0, .int .i64 0, .int .i64 0] 47)
    obtain ⟨c0, c1, c2, c3, c4⟩ := pow_cells ho2 s (by omega)
    have hi1 : (s : Int) < (m : Int) + 1 := by omega
    have hi2 : (s : Int) < ((m + 1 : Nat) : Int) := by omega
    have hi3 : (s : Int) + 1 ≤ (m : Int) + 1 := by omega
    have z1 := rel_zero (w.alloc (.cells #[.slice (some ⟨g, 0, none⟩) (m + 1) cap, .int .i64 a] 102))
    have B0 := below_two w (.cells #[.slice (some ⟨g, 0, none⟩) (m + 1) cap, .int .i64 a] 102) (.cells #[.int .i64 0, .int .i64 0, .int .i64 0, .int .i64 0, .int .i64 0] 47)
    rw [World.size_alloc] at z1
    have r2 := RelAt.new ((w.alloc (.cells #[.slice (some ⟨g, 0, none⟩) (m + 1) cap, .int .i64 a] 102)).alloc (.cells #[.int .i64 0, .int .i64 0, .int .i64 0, .int .i64 0, .int .i64 0] 47)) (powL xs s)
    rw [World.size_alloc, World.size_alloc] at r2
    have z2 := z1.alloc (.cells #[.int .i64 (powL xs s).length, .int .i64 (rowAt (powL xs s) 0), .int .i64 (rowAt (powL xs s) 1), .int .i64 (rowAt (powL xs s) 2), .int .i64 (rowAt (powL xs s) 3)] 47)
    have ho3 := ho2.alloc (.cells #[.int .i64 (powL xs s).length, .int .i64 (rowAt (powL xs s) 0), .int .i64 (rowAt (powL xs s) 1), .int .i64 (rowAt (powL xs s) 2), .int .i64 (rowAt (powL xs s) 3)] 47)
    have B1 := B0.alloc B0.size (.cells #[.int .i64 (powL xs s).length, .int .i64 (rowAt (powL xs s) 0), .int .i64 (rowAt (powL xs s) 1), .int .i64 (rowAt (powL xs s) 2), .int .i64 (rowAt (powL xs s) 3)] 47)
    have HF := Lib.hid (And.intro r2 (And.intro z2 (And.intro ho3 B1)))
    clear r2 z2 ho3 B1 B0 z1 ho2 ho
    go_enter Try.func94, Try.ntmps94
    go_wp2
    have r2 := HF.out.1
    have z2 := HF.out.2.1
    have ho3 := HF.out.2.2.1
    have B1 := HF.out.2.2.2
    clear HF c0 c1 c2 c3 c4 hi1 hi2 hi3
    go_loopw [19, 7] (fun i _ W => ∃ j : Nat, j ≤ m - s ∧ i = .int .i64 j ∧ RelAt W (w.heap.size + 1 + 1) (fromL xs s j) ∧ RelAt W (w.heap.size + 1) [] ∧ W.ownsRow 0 47 5 (.slice (some ⟨g, 0, none⟩) (m + 1) cap) (m + 1) (powC xs (m + 1)) ∧ Below w.heap.size w W)
      (fun i _ _ => m - s - (intOf i).toNat)
    case atStart => exact ⟨0, Nat.zero_le _, rfl, r2, z2, ho3, B1⟩
    case round =>
      clear r2 z2 ho3 B1
      obtain ⟨j, hj, rfl, hr, hz, ho, hB⟩ := hrel
      have hgW := (ho.lt g rfl).2
      by_cases hlt : j < m - s
      · have hhr := hr.lt
        have hzl := hz.lt
        obtain ⟨c0, c1, c2, c3, c4⟩ := pow_cells ho (s + 1 + j) (by omega)
        have e5 : (s + 1 + j) * 5 = (s + 1) * 5 + j * 5 := by omega
        rw [e5] at c0 c1 c2 c3 c4
        obtain ⟨Q, hQ⟩ : ∃ Q, powL xs (s + 1 + j) = Q := ⟨_, rfl⟩
        obtain ⟨F, hF⟩ : ∃ F, fromL xs s j = F := ⟨_, rfl⟩
        rw [hQ] at c0 c1 c2 c3 c4
        rw [hF] at hr
        have RQ : Rl xs.length Q := hQ ▸ H.out.pow (s + 1 + j)
        have RF : Rl xs.length F := hF ▸ H.out.from s j
        have hE : fromL xs s (j + 1) = eitherL F Q := by
          rw [← hQ, ← hF, show s + 1 + j = s + j + 1 by omega]
          rfl
        have HE := Lib.hid (And.intro hE (And.intro RQ RF))
        clear hQ hF hE RQ RF
        have p0 := hr.cell0
        have p1 := hr.cell1
        have p2 := hr.cell2
        have p3 := hr.cell3
        have p4 := hr.cell4
        have hj1 : (j : Int) < ((m - s : Nat) : Int) := by omega
        go_wp2_with fail
        refine (eitherR HE.out.2.2 HE.out.2.1 _).mono ?_
        rintro e w3 ⟨rfl, hb⟩
        have hr3 := (hr.alloc (.cells #[.int .i64 Q.length, .int .i64 (rowAt Q 0), .int .i64 (rowAt Q 1), .int .i64 (rowAt Q 2), .int .i64 (rowAt Q 3)] 47)).below hb (by simp; omega)
        have hz3 := (hz.alloc (.cells #[.int .i64 Q.length, .int .i64 (rowAt Q 0), .int .i64 (rowAt Q 1), .int .i64 (rowAt Q 2), .int .i64 (rowAt Q 3)] 47)).below hb (by simp; omega)
        have ho3 := own_keepR (ho.alloc (.cells #[.int .i64 Q.length, .int .i64 (rowAt Q 0), .int .i64 (rowAt Q 1), .int .i64 (rowAt Q 2), .int .i64 (rowAt Q 3)] 47)) hb (fun y hy => ((ho.alloc _).lt y hy).2)
        have B3 := (hB.alloc hB.size (.cells #[.int .i64 Q.length, .int .i64 (rowAt Q 0), .int .i64 (rowAt Q 1), .int .i64 (rowAt Q 2), .int .i64 (rowAt Q 3)] 47)).trans (hb.mono (by have := hB.size; simp; omega))
        have q0 := hr3.cell0
        have q1 := hr3.cell1
        have q2 := hr3.cell2
        have q3 := hr3.cell3
        have q4 := hr3.cell4
        have f0 := hr3.free 0
        have f1 := hr3.free 1
        have f2 := hr3.free 2
        have f3 := hr3.free 3
        have f4 := hr3.free 4
        have hput := hr3.put (eitherL F Q)
        have hgne : g ≠ w.heap.size + 1 + 1 := by omega
        have hzo := fun (W : World) (i : Nat) (v : Value) (h : RelAt W (w.heap.size + 1) []) => h.other (p := ⟨w.heap.size + 1 + 1, i, none⟩) (by simp) v
        have bb := fun (W : World) (i : Nat) (v : Value) (h : Below w.heap.size w W) => h.setCell (p := ⟨w.heap.size + 1 + 1, i, none⟩) (by simp; omega) v
        have so := fun (W : World) (i : Nat) (v : Value) (h : W.ownsRow 0 47 5 (.slice (some ⟨g, 0, none⟩) (m + 1) cap) (m + 1) (powC xs (m + 1))) => own_otherR h (p := ⟨w.heap.size + 1 + 1, i, none⟩) hgne v
        have HP := Lib.hid hput
        clear p0 p1 p2 p3 p4 c0 c1 c2 c3 c4 hr hz ho hB hb hput
        go_wp2
        go_roundw
        case rel =>
          refine ⟨j + 1, by omega, by go_num, ?_, hzo _ _ _ (hzo _ _ _ (hzo _ _ _ (hzo _ _ _ (hzo _ _ _ hz3)))), so _ _ _ (so _ _ _ (so _ _ _ (so _ _ _ (so _ _ _ ho3)))), bb _ _ _ (bb _ _ _ (bb _ _ _ (bb _ _ _ (bb _ _ _ B3))))⟩
          rw [HE.out.1]
          exact HP.out
        case measure => simp [intOf]; omega
      · obtain rfl : j = m - s := by omega
        have p0 := hr.cell0
        have p1 := hr.cell1
        have p2 := hr.cell2
        have p3 := hr.cell3
        have p4 := hr.cell4
        have q0 := hz.cell0
        have q1 := hz.cell1
        have q2 := hz.cell2
        have q3 := hz.cell3
        have q4 := hz.cell4
        have f0 := hz.free 0
        have f1 := hz.free 1
        have f2 := hz.free 2
        have f3 := hz.free 3
        have f4 := hz.free 4
        go_wp2
        have bb := fun (W : World) (i : Nat) (v : Value) (h : Below w.heap.size w W) => h.setCell (p := ⟨w.heap.size + 1, i, none⟩) (Nat.le_succ _) v
        exact bodyPost_ret (v := relOf (fromL xs s (m - s))) (by simp [results, Try.results94, go_sem, q0, q1, q2, q3, q4]) rfl ⟨rfl, bb _ _ _ (bb _ _ _ (bb _ _ _ (bb _ _ _ (bb _ _ _ hB))))⟩
end Go.Proofs.Ytcdiicckngndcab

namespace Go.Proofs.Ytcdiicckngndcab
open Go.RowKit

end Go.Proofs.Ytcdiicckngndcab

namespace Go.Proofs.Ytcdiicckngndcab
open Go.RowKit


/-- powers and where they come round, as a value and its memory -/
def PwIs (b : List Int) (w : World) (g cap m : Nat) : Prop := m ≤ 65536 ∧ fromL b 0 (m - 0) = starL b ∧ w.ownsRow 0 47 5 (.slice (some ⟨g, 0, none⟩) (m + 1) cap) (m + 1) (powC b (m + 1))
theorem powers_is {b : List Int} (h : Rl b.length b) (w : World) :
    Calls Try.prog 93 #[relOf b] w fun e w' => ∃ g cap m a, e = .returned (plV g cap m a) ∧ PwIs b w' g cap m ∧ Below w.heap.size w w' := by
  refine (powersOf_any h w).mono ?_
  rintro e w2 ⟨v, m, a, hr, rfl, ho, hb2⟩
  obtain ⟨g, cap, rfl, _, _⟩ := pow_form ho (by omega)
  exact ⟨g, cap, m, a, rfl, ⟨new_le h m hr.new, from_star h hr, own_mono ho (Nat.zero_le _)⟩, hb2⟩
theorem from_is {b : List Int} (h : Rl b.length b) (g cap m a : Nat) (w : World) (hp : PwIs b w g cap m) :
    Calls Try.prog 94 #[plV g cap m a, .int .i64 0] w fun e w' => e = .returned (relOf (starL b)) ∧ Below w.heap.size w w' := by
  have := from_any (a := a) h hp.1 g cap 0 (by omega) (by omega) w hp.2.2
  rw [hp.2.1] at this
  exact this

/-! the model's star -/
theorem mix_zipE {xs ys zs : List Int} {j : Nat} (h : Mix xs (eitherL xs ys) j zs) (hj : j < xs.length) (hy : j < ys.length) :
    Mix xs (eitherL xs ys) (j + 1) (zs.set j (bits .or .i64 (rowAt xs j) (rowAt ys j))) := h.step hj (zip_at _ _ _ _ hj hy)
theorem pt_wrapE (k : Nat) (h : k < 4) : wrap64 (2 ^ k) = pt k := by
  rcases (by omega : k = 0 ∨ k = 1 ∨ k = 2 ∨ k = 3) with rfl | rfl | rfl | rfl <;> decide +kernel

set_option maxHeartbeats 4000000 in
theorem l2Star_any (ao : Option Addr) (ca : Nat) (xs : List Int) (w : World) (h : Rl xs.length xs) (hx : Rd w ao xs) :
    Calls Try.prog 74 #[.slice ao xs.length ca] w fun e w' => ∃ v, e = .returned v ∧
      w'.ownsRow w.heap.size 3 1 v xs.length ((starL xs).map (Value.int .i64)) ∧ Below w.heap.size w w' := by
  have h4 := h.four
  have H := Lib.hid h
  clear h
  go_enter Try.func74, Try.ntmps74
  go_wp2_with fail
  refine (l2Reach_any ao ca xs w H.out.one H.out.four H.out.in16 hx).mono ?_
  rintro e w1 ⟨v, rfl, ho, hB⟩
  obtain ⟨g, cap, rfl, hg1, hg2⟩ := own_form ho H.out.one
  obtain ⟨T, hT⟩ : ∃ T, reachL xs = T := ⟨_, rfl⟩
  rw [hT] at ho
  have RT : Rl xs.length T := hT ▸ H.out.reach
  have HT := Lib.hid (And.intro hT RT)
  clear hT RT
  go_wp2
  go_loopw [4] (fun j wr => ∃ (k2 : Nat) (zs : List Int), k2 ≤ xs.length ∧ j = .int .i64 k2 ∧ Mix T (eitherL T (sameL xs.length)) k2 zs ∧ wr.ownsRow w.heap.size 3 1 (.slice (some ⟨g, 0, none⟩) xs.length cap) xs.length (zs.map (Value.int .i64)) ∧ Below w.heap.size w wr)
    (fun j _ => xs.length - (intOf j).toNat)
  case atStart => exact ⟨0, _, Nat.zero_le _, rfl, Mix.zero _ _, ho, hB⟩
  case round =>
    clear ho hB
    obtain ⟨j, zs, hj, rfl, hmix, ho, hB⟩ := hrel
    by_cases hlj : j < xs.length
    · have hzl : zs.length = xs.length := hmix.1.trans HT.out.2.len
      have hc1 := ho.cellAt j (by omega)
      have hf1 := ho.frozenAt j
      have hz1' : (zs.map (Value.int .i64))[j]? = some (.int .i64 (rowAt zs j)) := by rw [List.getElem?_map, rowAt_get (by omega)]; rfl
      rw [hz1', hmix.at] at hc1
      have hstep := mix_zipE hmix (by rw [HT.out.2.len]; exact hlj) (by rw [sameL_len]; exact hlj)
      rw [sameL_at _ _ hlj] at hstep
      obtain ⟨u, hu⟩ : ∃ u, rowAt T j = u := ⟨_, rfl⟩
      rw [hu] at hc1 hstep
      have hj1 : ((j : Nat) : Int) < (xs.length : Int) := by omega
      have hpt := pt_wrapE j (by have := H.out.four; omega)
      have HSTEP := Lib.hid (And.intro hstep hpt)
      clear hmix hz1' hstep hu hpt
      go_wp2
      go_region
      all_goals
        go_wp2
        go_roundw
        case rel =>
          refine ⟨j + 1, _, by omega, by go_num, HSTEP.out.1, ?_, hB.drew.setCell (by simp; omega) _⟩
          have h := (ho.stored j (.int .i64 (bits .or .i64 u (wrap64 (2 ^ j))))).1
          rw [← List.map_set, HSTEP.out.2] at h
          rw [HSTEP.out.2]
          exact h.drew
        case measure => simp [intOf]; omega
    · obtain rfl : j = xs.length := by omega
      have hfull : zs = eitherL T (sameL xs.length) := Mix.full (xs := T) (by rw [HT.out.2.len]; exact hmix) (by unfold eitherL zipI; rw [List.length_zipWith, sameL_len, HT.out.2.len, Nat.min_self])
      have hfin : zs = starL xs := by rw [hfull, ← HT.out.1]; rfl
      rw [hfin] at ho
      clear hmix hfull hfin
      go_wp2
      go_ret
      exact ⟨_, rfl, ho, hB⟩

end Go.Proofs.Ytcdiicckngndcab
