/-
  The program's CompReach and CompStar; for lists of at most 2^20 numbers.
-/
import Derived.Test.YtpbkgdohfnjjpabEH
import Derived.Test.YtpbkgdohfnjjpabEB
import Derived.Test.YtpbkgdohfnjjpabEF
namespace Go.Proofs.Ytpbkgdohfnjjpab
open Go.RowKit

theorem eitherR {n : Nat} {xs ys : List Int} (h : Rl n xs) (k : Rl n ys) (w : World) : Calls Try.prog 99 #[relOf xs, relOf ys] w fun e w' => e = .returned (relOf (eitherL xs ys)) ∧ Below w.heap.size w w' := either_any xs ys w (h.len.symm ▸ h.four) (h.len.trans k.len.symm)

theorem own_otherR {w : World} {e : TypeId} {size lo n g cap : Nat} {us : List Value} (h : w.ownsRow lo e size (.slice (some ⟨g, 0, none⟩) n cap) n us) {p : Addr} (hp : g ≠ p.block) (v : Value) : (w.setCell p v).ownsRow lo e size (.slice (some ⟨g, 0, none⟩) n cap) n us := by
  refine ⟨h.1, ?_⟩
  rcases h.2 with h2 | ⟨g', cap', cur, he, h2, h3, h4⟩
  · exact .inl h2
  · cases he
    exact .inr ⟨g, cap, cur, rfl, h2, (Below.heap_setCell w p v g hp).trans h3, h4⟩

set_option maxRecDepth 100000 in
set_option maxHeartbeats 8000000 in
theorem from_any {xs : List Int} {m a : Nat} (h : Rl xs.length xs) (hm : m ≤ 65536) (g cap s : Nat) (hs : s ≤ 1) (hsm : s ≤ m) (w : World) (ho : w.ownsRow 0 50 5 (.slice (some ⟨g, 0, none⟩) (m + 1) cap) (m + 1) (powC xs (m + 1))) :
    Calls Try.prog 88 #[plV g cap m a, .int .i64 s] w fun e w' => e = .returned (relOf (fromL xs s (m - s))) ∧ Below w.heap.size w w' := by
  have hg := (ho.lt g rfl).2
  have hcap : m + 1 ≤ cap := by
    rcases ho.2 with ⟨h, _⟩ | ⟨g', cap', cur, he, _, _, hle, _⟩
    · cases h
    · cases he
      exact hle
  have H := Lib.hid h
  clear h
  by_cases hcs : cap = s + 1
  · subst hcs
    have ho2 := (ho.alloc (.cells #[.slice (some ⟨g, 0, none⟩) (m + 1) (s + 1), .int .i64 a] 55)).alloc (.cells #[.int .i64 0, .int .i64 0, .int .i64 0, .int .i64 0, .int .i64 0] 50)
    obtain ⟨c0, c1, c2, c3, c4⟩ := pow_cells ho2 s (by omega)
    have hi1 : (s : Int) < (m : Int) + 1 := by omega
    have hi2 : (s : Int) < ((m + 1 : Nat) : Int) := by omega
    have hi3 : (s : Int) + 1 ≤ (m : Int) + 1 := by omega
    have z1 := rel_zero (w.alloc (.cells #[.slice (some ⟨g, 0, none⟩) (m + 1) (s + 1), .int .i64 a] 55))
    have B0 := below_two w (.cells #[.slice (some ⟨g, 0, none⟩) (m + 1) (s + 1), .int .i64 a] 55) (.cells #[.int .i64 0, .int .i64 0, .int .i64 0, .int .i64 0, .int .i64 0] 50)
    rw [World.size_alloc] at z1
    have r2 := RelAt.new ((w.alloc (.cells #[.slice (some ⟨g, 0, none⟩) (m + 1) (s + 1), .int .i64 a] 55)).alloc (.cells #[.int .i64 0, .int .i64 0, .int .i64 0, .int .i64 0, .int .i64 0] 50)) (powL xs s)
    rw [World.size_alloc, World.size_alloc] at r2
    have z2 := z1.alloc (.cells #[.int .i64 (powL xs s).length, .int .i64 (rowAt (powL xs s) 0), .int .i64 (rowAt (powL xs s) 1), .int .i64 (rowAt (powL xs s) 2), .int .i64 (rowAt (powL xs s) 3)] 50)
    have ho3 := ho2.alloc (.cells #[.int .i64 (powL xs s).length, .int .i64 (rowAt (powL xs s) 0), .int .i64 (rowAt (powL xs s) 1), .int .i64 (rowAt (powL xs s) 2), .int .i64 (rowAt (powL xs s) 3)] 50)
    have B1 := B0.alloc B0.size (.cells #[.int .i64 (powL xs s).length, .int .i64 (rowAt (powL xs s) 0), .int .i64 (rowAt (powL xs s) 1), .int .i64 (rowAt (powL xs s) 2), .int .i64 (rowAt (powL xs s) 3)] 50)
    have HF := Lib.hid (And.intro r2 (And.intro z2 (And.intro ho3 B1)))
    clear r2 z2 ho3 B1 B0 z1 ho2 ho
    go_enter Try.func88, Try.ntmps88
    go_wp2
    have r2 := HF.out.1
    have z2 := HF.out.2.1
    have ho3 := HF.out.2.2.1
    have B1 := HF.out.2.2.2
    clear HF c0 c1 c2 c3 c4 hi1 hi2 hi3
    go_loopw [19, 7] (fun i _ W => ∃ j : Nat, j ≤ m - s ∧ i = .int .i64 j ∧ RelAt W (w.heap.size + 1 + 1) (fromL xs s j) ∧ RelAt W (w.heap.size + 1) [] ∧ W.ownsRow 0 50 5 (.slice (some ⟨g, 0, none⟩) (m + 1) (s + 1)) (m + 1) (powC xs (m + 1)) ∧ Below w.heap.size w W)
      (fun i _ _ => m - s - (intOf i).toNat)
    case atStart => exact ⟨0, Nat.zero_le _, rfl, r2, z2, ho3, B1⟩
    case round =>
      clear r2 z2 ho3 B1
      obtain ⟨j, hj, rfl, hr, hz, ho, hB⟩ := hrel
      have hgW := (ho.lt g rfl).2
      by_cases hlt : j < m - s
      · exfalso
        omega
      · obtain rfl : j = m - s := by omega
        have p0 := hr.cell0
        have p1 := hr.cell1
        have p2 := hr.cell2
        have p3 := hr.cell3
        have p4 := hr.cell4
        have q0 := hz.cell0
        have q1 := hz.cell1
        have q2 := hz.cell2
        have q3 := hz.cell3
        have q4 := hz.cell4
        have f0 := hz.free 0
        have f1 := hz.free 1
        have f2 := hz.free 2
        have f3 := hz.free 3
        have f4 := hz.free 4
        go_wp2
        have bb := fun (W : World) (i : Nat) (v : Value) (h : Below w.heap.size w W) => h.setCell (p := ⟨w.heap.size + 1, i, none⟩) (Nat.le_succ _) v
        exact bodyPost_ret (v := relOf (fromL xs s (m - s))) (by simp [results, Try.results88, go_sem, q0, q1, q2, q3, q4]) rfl ⟨rfl, bb _ _ _ (bb _ _ _ (bb _ _ _ (bb _ _ _ (bb _ _ _ hB))))⟩
  · have ho2 := (ho.alloc (.cells #[.slice (some ⟨g, 0, none⟩) (m + 1) cap, .int .i64 a] 55)).alloc (.cells #[.int .i64 0, .int .i64 0, .int .i64 0, .int .i64 0, .int .i64 0] 50)
    obtain ⟨c0, c1, c2, c3, c4⟩ := pow_cells ho2 s (by omega)
    have hi1 : (s : Int) < (m : Int) + 1 := by omega
    have hi2 : (s : Int) < ((m + 1 : Nat) : Int) := by omega
    have hi3 : (s : Int) + 1 ≤ (m : Int) + 1 := by omega
    have z1 := rel_zero (w.alloc (.cells #[.slice (some ⟨g, 0, none⟩) (m + 1) cap, .int .i64 a] 55))
    have B0 := below_two w (.cells #[.slice (some ⟨g, 0, none⟩) (m + 1) cap, .int .i64 a] 55) (.cells #[.int .i64 0, .int .i64 0, .int .i64 0, .int .i64 0, .int .i64 0] 50)
    rw [World.size_alloc] at z1
    have r2 := RelAt.new ((w.alloc (.cells #[.slice (some ⟨g, 0, none⟩) (m + 1) cap, .int .i64 a] 55)).alloc (.cells #[.int .i64 0, .int .i64 0, .int .i64 0, .int .i64 0, .int .i64 0] 50)) (powL xs s)
    rw [World.size_alloc, World.size_alloc] at r2
    have z2 := z1.alloc (.cells #[.int .i64 (powL xs s).length, .int .i64 (rowAt (powL xs s) 0), .int .i64 (rowAt (powL xs s) 1), .int .i64 (rowAt (powL xs s) 2), .int .i64 (rowAt (powL xs s) 3)] 50)
    have ho3 := ho2.alloc (.cells #[.int .i64 (powL xs s).length, .int .i64 (rowAt (powL xs s) 0), .int .i64 (rowAt (powL xs s) 1), .int .i64 (rowAt (powL xs s) 2), .int .i64 (rowAt (powL xs s) 3)] 50)
    have B1 := B0.alloc B0.size (.cells #[.int .i64 (powL xs s).length, .int .i64 (rowAt (powL xs s) 0), .int .i64 (rowAt (powL xs s) 1), .int .i64 (rowAt (powL xs s) 2), .int .i64 (rowAt (powL xs s) 3)] 50)
    have HF := Lib.hid (And.intro r2 (And.intro z2 (And.intro ho3 B1)))
    clear r2 z2 ho3 B1 B0 z1 ho2 ho
    go_enter Try.func88, Try.ntmps88
    go_wp2
    have r2 := HF.out.1
    have z2 := HF.out.2.1
    have ho3 := HF.out.2.2.1
    have B1 := HF.out.2.2.2
    clear HF c0 c1 c2 c3 c4 hi1 hi2 hi3
    go_loopw [19, 7] (fun i _ W => ∃ j : Nat, j ≤ m - s ∧ i = .int .i64 j ∧ RelAt W (w.heap.size + 1 + 1) (fromL xs s j) ∧ RelAt W (w.heap.size + 1) [] ∧ W.ownsRow 0 50 5 (.slice (some ⟨g, 0, none⟩) (m + 1) cap) (m + 1) (powC xs (m + 1)) ∧ Below w.heap.size w W)
      (fun i _ _ => m - s - (intOf i).toNat)
    case atStart => exact ⟨0, Nat.zero_le _, rfl, r2, z2, ho3, B1⟩
    case round =>
      clear r2 z2 ho3 B1
      obtain ⟨j, hj, rfl, hr, hz, ho, hB⟩ := hrel
      have hgW := (ho.lt g rfl).2
      by_cases hlt : j < m - s
      · have hhr := hr.lt
        have hzl := hz.lt
        obtain ⟨c0, c1, c2, c3, c4⟩ := pow_cells ho (s + 1 + j) (by omega)
        have e5 : (s + 1 + j) * 5 = (s + 1) * 5 + j * 5 := by omega
        rw [e5] at c0 c1 c2 c3 c4
        obtain ⟨Q, hQ⟩ : ∃ Q, powL xs (s + 1 + j) = Q := ⟨_, rfl⟩
        obtain ⟨F, hF⟩ : ∃ F, fromL xs s j = F := ⟨_, rfl⟩
        rw [hQ] at c0 c1 c2 c3 c4
        rw [hF] at hr
        have RQ : Rl xs.length Q := hQ ▸ H.out.pow (s + 1 + j)
        have RF : Rl xs.length F := hF ▸ H.out.from s j
        have hE : fromL xs s (j + 1) = eitherL F Q := by
          rw [← hQ, ← hF, show s + 1 + j = s + j + 1 by omega]
          rfl
        have HE := Lib.hid (And.intro hE (And.intro RQ RF))
        clear hQ hF hE RQ RF
        have p0 := hr.cell0
        have p1 := hr.cell1
        have p2 := hr.cell2
        have p3 := hr.cell3
        have p4 := hr.cell4
        have hj1 : (j : Int) < ((m - s : Nat) : Int) := by omega
        go_wp2_with fail
        refine (eitherR HE.out.2.2 HE.out.2.1 _).mono ?_
        rintro e w3 ⟨rfl, hb⟩
        have hr3 := (hr.alloc (.cells #[.int .i64 Q.length, .int .i64 (rowAt Q 0), .int .i64 (rowAt Q 1), .int .i64 (rowAt Q 2), .int .i64 (rowAt Q 3)] 50)).below hb (by simp; omega)
        have hz3 := (hz.alloc (.cells #[.int .i64 Q.length, .int .i64 (rowAt Q 0), .int .i64 (rowAt Q 1), .int .i64 (rowAt Q 2), .int .i64 (rowAt Q 3)] 50)).below hb (by simp; omega)
        have ho3 := own_keepR (ho.alloc (.cells #[.int .i64 Q.length, .int .i64 (rowAt Q 0), .int .i64 (rowAt Q 1), .int .i64 (rowAt Q 2), .int .i64 (rowAt Q 3)] 50)) hb (fun y hy => ((ho.alloc _).lt y hy).2)
        have B3 := (hB.alloc hB.size (.cells #[.int .i64 Q.length, .int .i64 (rowAt Q 0), .int .i64 (rowAt Q 1), .int .i64 (rowAt Q 2), .int .i64 (rowAt Q 3)] 50)).trans (hb.mono (by have := hB.size; simp; omega))
        have q0 := hr3.cell0
        have q1 := hr3.cell1
        have q2 := hr3.cell2
        have q3 := hr3.cell3
        have q4 := hr3.cell4
        have f0 := hr3.free 0
        have f1 := hr3.free 1
        have f2 := hr3.free 2
        have f3 := hr3.free 3
        have f4 := hr3.free 4
        have hput := hr3.put (eitherL F Q)
        have hgne : g ≠ w.heap.size + 1 + 1 := by omega
        have hzo := fun (W : World) (i : Nat) (v : Value) (h : RelAt W (w.heap.size + 1) []) => h.other (p := ⟨w.heap.size + 1 + 1, i, none⟩) (by simp) v
        have bb := fun (W : World) (i : Nat) (v : Value) (h : Below w.heap.size w W) => h.setCell (p := ⟨w.heap.size + 1 + 1, i, none⟩) (by simp; omega) v
        have so := fun (W : World) (i : Nat) (v : Value) (h : W.ownsRow 0 50 5 (.slice (some ⟨g, 0, none⟩) (m + 1) cap) (m + 1) (powC xs (m + 1))) => own_otherR h (p := ⟨w.heap.size + 1 + 1, i, none⟩) hgne v
        have HP := Lib.hid hput
        clear p0 p1 p2 p3 p4 c0 c1 c2 c3 c4 hr hz ho hB hb hput
        go_wp2
        go_roundw
        case rel =>
          refine ⟨j + 1, by omega, by go_num, ?_, hzo _ _ _ (hzo _ _ _ (hzo _ _ _ (hzo _ _ _ (hzo _ _ _ hz3)))), so _ _ _ (so _ _ _ (so _ _ _ (so _ _ _ (so _ _ _ ho3)))), bb _ _ _ (bb _ _ _ (bb _ _ _ (bb _ _ _ (bb _ _ _ B3))))⟩
          rw [HE.out.1]
          exact HP.out
        case measure => simp [intOf]; omega
      · obtain rfl : j = m - s := by omega
        have p0 := hr.cell0
        have p1 := hr.cell1
        have p2 := hr.cell2
        have p3 := hr.cell3
        have p4 := hr.cell4
        have q0 := hz.cell0
        have q1 := hz.cell1
        have q2 := hz.cell2
        have q3 := hz.cell3
        have q4 := hz.cell4
        have f0 := hz.free 0
        have f1 := hz.free 1
        have f2 := hz.free 2
        have f3 := hz.free 3
        have f4 := hz.free 4
        go_wp2
        have bb := fun (W : World) (i : Nat) (v : Value) (h : Below w.heap.size w W) => h.setCell (p := ⟨w.heap.size + 1, i, none⟩) (Nat.le_succ _) v
        exact bodyPost_ret (v := relOf (fromL xs s (m - s))) (by simp [results, Try.results88, go_sem, q0, q1, q2, q3, q4]) rfl ⟨rfl, bb _ _ _ (bb _ _ _ (bb _ _ _ (bb _ _ _ (bb _ _ _ hB))))⟩
end Go.Proofs.Ytpbkgdohfnjjpab

namespace Go.Proofs.Ytpbkgdohfnjjpab
open Go.RowKit

set_option maxHeartbeats 4000000 in
theorem specCompPower_yes (ao : Option Addr) (ca : Nat) (xs : List Int) (n : Nat) (w : World) (hn : n ≤ 100) (hp : relIn xs = true) (hl : xs.length ≤ 1048576) (hx : Rd w ao xs) :
    Calls Try.prog 12 #[.slice ao xs.length ca, .int .i64 n] w (Gave w (powL xs n) true) := by
  have h1 := specRelIn_any ao ca xs w hl hx
  rw [hp] at h1
  have R := Lib.hid (Rl.of hp)
  have H1 := Lib.hid h1
  have hinB : inB (n : Int) 0 100 = true := inB_yes (by omega) (by omega)
  clear h1 hp
  go_enter Try.func12, Try.ntmps12
  go_wp2_with fail
  refine H1.out.mono ?_
  rintro e w1 ⟨rfl, hd⟩
  have hx1 := hd.rd hx
  have B1 := hd.below w.heap.size
  have hh : w.heap.size = w1.heap.size := by rw [hd.heap]
  have HH := Lib.hid hh
  clear hd hh hx
  go_wp2_with (go_at_call 45; refine (l6In_any _ _ _ _).mono ?_; rintro e w' ⟨rfl, rfl⟩)
  refine (l1Same_any xs.length w1 R.out.one R.out.four).mono ?_
  rintro e w2 ⟨v, rfl, ho, hb⟩
  have hB2 : Below w.heap.size w w2 := B1.trans (by rw [HH.out]; exact hb)
  have ho2 := own_mono ho (Nat.le_of_eq HH.out)
  have hx2 := hx1.below hb
  clear ho hb B1 hx1
  go_wp2
  go_loopw [6, 7] (fun v i wr => ∃ k : Nat, k ≤ n ∧ i = .int .i64 k ∧ wr.ownsRow w.heap.size 3 1 v xs.length ((powL xs k).map (Value.int .i64)) ∧ Rd wr ao xs ∧ Below w.heap.size w wr)
    (fun _ i _ => n - (intOf i).toNat)
  case atStart => exact ⟨0, Nat.zero_le _, rfl, ho2, hx2, hB2⟩
  case round =>
    clear ho2 hx2 hB2
    obtain ⟨k, hk, rfl, ho, hx, hB7⟩ := hrel
    by_cases hlt : k < n
    · obtain ⟨g, cap, rfl, hg1, hg2⟩ := own_form ho R.out.one
      have hlen := (R.out.pow k).len
      have hc := sComp (R.out.pow k) R.out (some ⟨g, 0, none⟩) ao cap ca wr (rd_own ho hlen) hx
      rw [hlen] at hc
      have HC := Lib.hid hc
      clear hc ho hlen
      go_wp2_with fail
      refine HC.out.mono ?_
      rintro e w3 ⟨v3, rfl, ho3, hb3⟩
      have hl3 : (compL (powL xs k) xs).length = xs.length := (R.out.pow (k + 1)).len
      rw [hl3] at ho3
      have ho4 := own_mono ho3 hB7.size
      have hx3 := hx.below hb3
      have hB3 := hB7.trans (hb3.mono hB7.size)
      clear ho3 hb3 hB7 hx hl3
      go_wp2
      go_roundw
      case rel => exact ⟨k + 1, by omega, by go_num, ho4, hx3, hB3⟩
      case measure => simp [intOf]; omega
    · obtain rfl : k = n := by omega
      go_wp2
      go_ret2
      exact ⟨_, rfl, by rw [(R.out.pow k).len]; exact ho, hB7⟩

theorem specCompPower_any (ao : Option Addr) (ca : Nat) (xs : List Int) (k : Int) (w : World) (hl : xs.length ≤ 1048576) (hx : Rd w ao xs) :
    Calls Try.prog 12 #[.slice ao xs.length ca, .int .i64 k] w (Gave w (ifR (relIn xs && inB k 0 100) (powL xs k.toNat)) (relIn xs && inB k 0 100)) := by
  have h1 := specRelIn_any ao ca xs w hl hx
  cases hp : relIn xs with
  | false =>
    rw [hp] at h1
    have H1 := Lib.hid h1
    clear h1 hp
    go_enter Try.func12, Try.ntmps12
    go_wp2_with (go_at_call 44; refine H1.out.mono ?_; rintro e w1 ⟨rfl, hd⟩)
    go_ret2
    have hh : w.heap.size = w1.heap.size := by rw [hd.heap]
    exact ⟨_, rfl, by rw [hh]; exact row_lit0 w1, (hd.below _).alloc (by omega) _⟩
  | true =>
    rw [Bool.true_and]
    cases hB : inB k 0 100 with
    | false =>
      rw [hp] at h1
      have H1 := Lib.hid h1
      clear h1 hp
      go_enter Try.func12, Try.ntmps12
      go_wp2_with fail
      refine H1.out.mono ?_
      rintro e w1 ⟨rfl, hd⟩
      go_wp2_with (go_at_call 45; refine (l6In_any _ _ _ _).mono ?_; rintro e w' ⟨rfl, rfl⟩)
      go_ret2
      have hh : w.heap.size = w1.heap.size := by rw [hd.heap]
      exact ⟨_, rfl, by rw [hh]; exact row_lit0 w1, (hd.below _).alloc (by omega) _⟩
    | true =>
      have hk : 0 ≤ k ∧ k ≤ 100 := of_decide_eq_true hB
      obtain ⟨n, rfl⟩ : ∃ n : Nat, k = (n : Int) := ⟨k.toNat, by omega⟩
      rw [Int.toNat_natCast]
      exact specCompPower_yes ao ca xs n w (by omega) hp hl hx
end Go.Proofs.Ytpbkgdohfnjjpab

namespace Go.Proofs.Ytpbkgdohfnjjpab
open Go.RowKit


/-! the model's star -/
theorem mix_zipE {xs ys zs : List Int} {j : Nat} (h : Mix xs (eitherL xs ys) j zs) (hj : j < xs.length) (hy : j < ys.length) :
    Mix xs (eitherL xs ys) (j + 1) (zs.set j (bits .or .i64 (rowAt xs j) (rowAt ys j))) := h.step hj (zip_at _ _ _ _ hj hy)
theorem pt_wrapE (k : Nat) (h : k < 4) : wrap64 (2 ^ k) = pt k := by
  rcases (by omega : k = 0 ∨ k = 1 ∨ k = 2 ∨ k = 3) with rfl | rfl | rfl | rfl <;> decide +kernel

end Go.Proofs.Ytpbkgdohfnjjpab
