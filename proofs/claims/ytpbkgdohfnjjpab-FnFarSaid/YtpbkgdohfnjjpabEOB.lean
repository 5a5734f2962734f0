/-
  Distances: CompFar where something is not as told; the model's.
-/
import Derived.Test.YtpbkgdohfnjjpabEO
namespace Go.Proofs.Ytpbkgdohfnjjpab
open Go.RowKit

theorem implCompFar_any (ao : Option Addr) (ca : Nat) (xs : List Int) (x y : Int) (w : World) (hl : xs.length ≤ 1048576) (hx : Rd w ao xs) :
    Calls Try.prog 19 #[.slice ao xs.length ca, .int .i64 x, .int .i64 y] w (FarGave xs x y w) := by
  cases hp : relIn xs with
  | false =>
    have hf : farR xs x y = none := farR_bad (by rw [hp]; rfl)
    have HP := Lib.hid (And.intro hp hf)
    clear hp hf
    go_enter Try.func19, Try.ntmps19
    go_wp2_with (go_at_call 40; refine (relationFrom_no _ _ _ _ hl HP.out.1 hx).mono ?_; rintro e w1 ⟨rfl, hb⟩)
    go_ret2
    exact ⟨by rw [HP.out.2]; rfl, hb.alloc hb.size _⟩
  | true =>
    cases h1 : ptIn x xs.length with
    | false =>
      have hf : farR xs x y = none := farR_bad (by rw [hp, h1]; rfl)
      have HP := Lib.hid (And.intro hp hf)
      clear hp hf
      go_enter Try.func19, Try.ntmps19
      go_wp2_with fail
      refine (relationFrom_yes _ _ _ _ HP.out.1 hx).mono ?_
      rintro e w1 ⟨rfl, hb⟩
      have p0 := (RelAt.new w1 xs).cell0
      go_wp2_with (go_at_call 53; refine (isPointP _ _ _).mono ?_; rintro e w' ⟨rfl, rfl⟩)
      go_ret2
      exact ⟨by rw [HP.out.2]; rfl, hb.alloc hb.size _⟩
    | true =>
      cases h2 : ptIn y xs.length with
      | false =>
        have hf : farR xs x y = none := farR_bad (by rw [hp, h1, h2]; rfl)
        have HP := Lib.hid (And.intro hp hf)
        clear hp hf
        go_enter Try.func19, Try.ntmps19
        go_wp2_with fail
        refine (relationFrom_yes _ _ _ _ HP.out.1 hx).mono ?_
        rintro e w1 ⟨rfl, hb⟩
        have p0 := (RelAt.new w1 xs).cell0
        go_wp2_with (go_at_call 53; refine (isPointP _ _ _).mono ?_; rintro e w' ⟨rfl, rfl⟩)
        go_ret2
        exact ⟨by rw [HP.out.2]; rfl, hb.alloc hb.size _⟩
      | true =>
        have hx1 : 0 ≤ x ∧ x < xs.length := of_decide_eq_true h1
        have hy1 : 0 ≤ y ∧ y < xs.length := of_decide_eq_true h2
        obtain ⟨i, rfl⟩ : ∃ i : Nat, x = (i : Int) := ⟨x.toNat, by omega⟩
        obtain ⟨j, rfl⟩ : ∃ j : Nat, y = (j : Int) := ⟨y.toNat, by omega⟩
        exact implFar_yes ao ca xs i j w hp (by omega) (by omega) hx

set_option maxHeartbeats 4000000 in
theorem specFar_yes (ao : Option Addr) (ca : Nat) (xs : List Int) (x y : Nat) (w : World) (hl : xs.length ≤ 1048576) (hp : relIn xs = true) (hxl : x < xs.length) (hyl : y < xs.length) (hx : Rd w ao xs) :
    Calls Try.prog 20 #[.slice ao xs.length ca, .int .i64 x, .int .i64 y] w (FarGave xs x y w) := by
  have h4 := (relIn_len hp).2
  have hpx : ptIn (x : Int) xs.length = true := decide_eq_true (by omega)
  have hpy : ptIn (y : Int) xs.length = true := decide_eq_true (by omega)
  have hfar : farR xs x y = farO xs x y := by
    unfold farR
    rw [hp, hpx, hpy]
    rfl
  have h1 := specRelIn_any ao ca xs w hl hx
  rw [hp] at h1
  have bx : inB (x : Int) 0 ((xs.length : Int) - 1) = true := by rw [ptIn_eq]; exact hpx
  have by' : inB (y : Int) 0 ((xs.length : Int) - 1) = true := by rw [ptIn_eq]; exact hpy
  have R := Lib.hid (And.intro (Rl.of hp) hfar)
  have H1 := Lib.hid h1
  clear h1 hp hfar hpx hpy
  go_enter Try.func20, Try.ntmps20
  go_wp2_with fail
  refine H1.out.mono ?_
  rintro e w1 ⟨rfl, hd⟩
  have hx1 := hd.rd hx
  have B1 := hd.below w.heap.size
  have hh : w.heap.size = w1.heap.size := by rw [hd.heap]
  have HH := Lib.hid hh
  clear hd hh hx
  go_wp2_with (go_at_call 45; refine (l6In_any _ _ _ _).mono ?_; rintro e w' ⟨rfl, rfl⟩)
  refine (l1Same_any xs.length w1 R.out.1.one h4).mono ?_
  rintro e w2 ⟨v, rfl, ho, hb⟩
  have hB2 : Below w.heap.size w w2 := B1.trans (by rw [HH.out]; exact hb)
  have ho2 := own_mono ho (Nat.le_of_eq HH.out)
  have hx2 := hx1.below hb
  clear ho hb B1 hx1 bx by'
  go_wp2
  go_loopw [8, 9] (fun v i wr => ∃ k : Nat, k ≤ xs.length ∧ i = .int .i64 k ∧ (∀ t, t < k → hB (powL xs t) x y = false) ∧ wr.ownsRow w.heap.size 3 1 v xs.length ((powL xs k).map (Value.int .i64)) ∧ Rd wr ao xs ∧ Below w.heap.size w wr)
    (fun _ i _ => xs.length - (intOf i).toNat)
  case atStart => exact ⟨0, Nat.zero_le _, rfl, fun t ht => by omega, ho2, hx2, hB2⟩
  case round =>
    clear ho2 hx2 hB2
    obtain ⟨k, hk, rfl, hne, ho, hx, hB7⟩ := hrel
    have HNE := Lib.hid hne
    clear hne
    by_cases hlt : k < xs.length
    · obtain ⟨g, cap, rfl, hg1, hg2⟩ := own_form ho R.out.1.one
      have hlen := (R.out.1.pow k).len
      have hc := sComp (R.out.1.pow k) R.out.1 (some ⟨g, 0, none⟩) ao cap ca
      have hc1 := ho.cellAt x (by omega)
      obtain ⟨z, hz, _⟩ := (R.out.1.pow k).row x
      have hz1 : ((powL xs k).map (Value.int .i64))[x]? = some (.int .i64 (z.val : Int)) := by rw [List.getElem?_map, rowAt_get (by rw [hlen]; exact hxl), hz]; rfl
      rw [hz1] at hc1
      have hi1 : (x : Int) < (xs.length : Int) := by omega
      have hrdo := rd_own ho hlen
      rw [hlen] at hc
      have hbit := b_bit z ⟨y, by omega⟩
      have hbb : hB (powL xs k) x y = hasB (z.val : Int) y := by unfold hB; rw [hz]
      have HC := Lib.hid (And.intro hc (And.intro hbit hbb))
      clear hc hz1 hz hbit hbb
      cases hb : bits .and .i64 ((z.val : Int) / 2 ^ y) 1 == 1 with
      | true =>
        have HB := Lib.hid hb
        go_wp2
        go_ret2
        refine ⟨?_, hB7⟩
        have hk : hB (powL xs k) x y = true := by rw [HC.out.2.2, ← HC.out.2.1]; exact HB.out
        rw [R.out.2, far_some R.out.1 x y hxl hyl k hk HNE.out]
        rfl
      | false =>
        have HB := Lib.hid hb
        clear ho
        go_wp2_with fail
        refine (HC.out.1 _ hrdo hx).mono ?_
        rintro e w3 ⟨v3, rfl, ho3, hb3⟩
        have hl3 : (compL (powL xs k) xs).length = xs.length := (R.out.1.pow (k + 1)).len
        rw [hl3] at ho3
        have ho4 := own_mono ho3 hB7.size
        have hx3 := hx.below hb3
        have hB3 := hB7.trans (hb3.mono hB7.size)
        clear ho3 hb3 hB7 hx hl3 hc1 hrdo
        go_wp2
        go_roundw
        case rel =>
          refine ⟨k + 1, by omega, by go_num, ?_, ho4, hx3, hB3⟩
          intro t ht
          by_cases e : t = k
          · subst e
            rw [HC.out.2.2, ← HC.out.2.1]
            exact HB.out
          · exact HNE.out t (by omega)
        case measure => simp [intOf]; omega
    · obtain rfl : k = xs.length := by omega
      go_wp2
      go_ret2
      refine ⟨?_, hB7⟩
      rw [R.out.2, far_none x y HNE.out]
      rfl

theorem specCompFar_any (ao : Option Addr) (ca : Nat) (xs : List Int) (x y : Int) (w : World) (hl : xs.length ≤ 1048576) (hx : Rd w ao xs) :
    Calls Try.prog 20 #[.slice ao xs.length ca, .int .i64 x, .int .i64 y] w (FarGave xs x y w) := by
  have h0 := specRelIn_any ao ca xs w hl hx
  cases hp : relIn xs with
  | false =>
    rw [hp] at h0
    have hf : farR xs x y = none := farR_bad (by rw [hp]; rfl)
    have HP := Lib.hid (And.intro h0 hf)
    clear hp hf h0
    go_enter Try.func20, Try.ntmps20
    go_wp2_with (go_at_call 44; refine HP.out.1.mono ?_; rintro e w1 ⟨rfl, hd⟩)
    go_ret2
    exact ⟨by rw [HP.out.2]; rfl, hd.below _⟩
  | true =>
    rw [hp] at h0
    have h4 := (relIn_len hp).2
    cases h1 : ptIn x xs.length with
    | false =>
      have hf : farR xs x y = none := farR_bad (by rw [hp, h1]; rfl)
      have bx : inB x 0 ((xs.length : Int) - 1) = false := by rw [ptIn_eq]; exact h1
      have HP := Lib.hid (And.intro h0 hf)
      clear hp hf h0 h1
      go_enter Try.func20, Try.ntmps20
      go_wp2_with fail
      refine HP.out.1.mono ?_
      rintro e w1 ⟨rfl, hd⟩
      go_wp2_with (go_at_call 45; refine (l6In_any _ _ _ _).mono ?_; rintro e w' ⟨rfl, rfl⟩)
      go_ret2
      exact ⟨by rw [HP.out.2]; rfl, hd.below _⟩
    | true =>
      cases h2 : ptIn y xs.length with
      | false =>
        have hf : farR xs x y = none := farR_bad (by rw [hp, h1, h2]; rfl)
        have bx : inB x 0 ((xs.length : Int) - 1) = true := by rw [ptIn_eq]; exact h1
        have by' : inB y 0 ((xs.length : Int) - 1) = false := by rw [ptIn_eq]; exact h2
        have HP := Lib.hid (And.intro h0 hf)
        clear hp hf h0 h1 h2
        go_enter Try.func20, Try.ntmps20
        go_wp2_with fail
        refine HP.out.1.mono ?_
        rintro e w1 ⟨rfl, hd⟩
        go_wp2_with (go_at_call 45; refine (l6In_any _ _ _ _).mono ?_; rintro e w' ⟨rfl, rfl⟩)
        go_ret2
        exact ⟨by rw [HP.out.2]; rfl, hd.below _⟩
      | true =>
        have hx1 : 0 ≤ x ∧ x < xs.length := of_decide_eq_true h1
        have hy1 : 0 ≤ y ∧ y < xs.length := of_decide_eq_true h2
        obtain ⟨i, rfl⟩ : ∃ i : Nat, x = (i : Int) := ⟨x.toNat, by omega⟩
        obtain ⟨j, rfl⟩ : ∃ j : Nat, y = (j : Int) := ⟨y.toNat, by omega⟩
        exact specFar_yes ao ca xs i j w hl hp (by omega) (by omega) hx
end Go.Proofs.Ytpbkgdohfnjjpab
