/-
  The program's rank; for lists of at most 2^20 numbers.
-/
import Derived.Test.YtpbkgdohfnjjpabQQ
import Derived.Test.YtpbkgdohfnjjpabQL
namespace Go.Proofs.Ytpbkgdohfnjjpab
open Go.RowKit Go.Shelf
attribute [local go_sem] Oper.semAt_some

theorem full_zero : ∀ n : Fin 5, 1 ≤ n.val → 1 ≤ (fullL (List.replicate n.val 0)).length := by decide +kernel
theorem full_pos {xs : List Int} (R : Rl xs.length xs) : 1 ≤ (fullL xs).length := by
  by_cases h : ∃ i j, i < xs.length ∧ j < xs.length ∧ hB xs i j = true
  · obtain ⟨i, j, hi, hj, e⟩ := h
    obtain ⟨r, hr, _⟩ := full_at R i j hi hj e
    exact List.length_pos_of_mem hr
  · have e : xs = List.replicate xs.length 0 := R.ext (Rl.zeros R.one R.four) fun i j hi hj => by
      rw [hB_zeros xs.length i j (by have := R.four; omega)]
      cases e : hB xs i j with
      | false => rfl
      | true => exact absurd ⟨i, j, hi, hj, e⟩ h
    have h4 := R.four
    have := full_zero ⟨xs.length, by omega⟩ R.one
    dsimp only at this
    rw [← e] at this
    exact this

set_option maxRecDepth 100000 in
set_option maxHeartbeats 4000000 in
theorem rank_any {xs : List Int} (R : Rl xs.length xs) (k : Nat) (hk : LeastC xs.length (fullL xs) xs k) (hk2 : k ≤ 16) (w : World) :
    Calls Try.prog 62 #[relOf xs] w fun e w' => e = .returned (.int .i64 (k : Int)) ∧ Below w.heap.size w w' := by
  obtain ⟨hk1, hkj⟩ := least_pc R hk
  have hpos := full_pos R
  have hle : (fullL xs).length ≤ 1000 := by
    have := full_len xs (2 ^ xs.length)
    have := pow_le16 R.four
    unfold fullL
    omega
  have hC := fun (B cap size : Nat) (hz : size ≤ 1000) (w : World) (hrd : PrRd w (some ⟨B, 0, none⟩) (fullL xs)) => callsIn_wide.1 (hasCover_in (F := fullL xs) R (fun r hr => (full_mem R hr).1) hle B cap size hz w hrd)
  have HF := Lib.hid (And.intro (fun w => fullRectangles_any R w) (And.intro hk1 (And.intro hkj (And.intro hC (And.intro hpos hle)))))
  have x1 := RelAt.new w xs
  have B1 := below_one w (.cells #[.int .i64 xs.length, .int .i64 (rowAt xs 0), .int .i64 (rowAt xs 1), .int .i64 (rowAt xs 2), .int .i64 (rowAt xs 3)] 50)
  clear R hk hk1 hkj hpos hle hC
  have p0 := x1.cell0
  have p1 := x1.cell1
  have p2 := x1.cell2
  have p3 := x1.cell3
  have p4 := x1.cell4
  go_enter Try.func62, Try.ntmps62
  go_wp2_with fail
  refine (HF.out.1 _).mono ?_
  rintro e w2 ⟨v, rfl, ho, hb⟩
  obtain ⟨ao, cap, rfl, hrd⟩ := prRd_of ho
  obtain ⟨p, hp⟩ : ∃ p, (fullL xs)[0]? = some p := ⟨_, List.getElem?_eq_getElem HF.out.2.2.2.2.1⟩
  obtain ⟨b, rfl, _⟩ := hrd 0 p hp
  have x2 := x1.below hb x1.lt
  have B2 := B1.trans (hb.mono B1.size)
  have HR := Lib.hid hrd
  clear hp ho hrd hb x1 B1 p0 p1 p2 p3 p4
  obtain ⟨M, hM⟩ : ∃ M, (fullL xs).length = M := ⟨_, rfl⟩
  have HM := Lib.hid hM
  rw [hM]
  clear hM
  go_wp2
  go_loopw [4] (fun n wr => ∃ j : Nat, j ≤ k ∧ n = .int .i64 j ∧ RelAt wr w.heap.size xs ∧ Below w2.heap.size w2 wr)
    (fun n _ => k - (intOf n).toNat)
  case atStart => exact ⟨0, Nat.zero_le _, rfl, x2, Below.refl _ _⟩
  case round =>
    clear x2
    obtain ⟨j, hj, rfl, hx, hB⟩ := hrel
    have hcov := HF.out.2.2.2.1 b cap j (by omega) wr (HR.out.below hB)
    rw [HM.out] at hcov
    have HC := Lib.hid hcov
    have p0 := hx.cell0
    have p1 := hx.cell1
    have p2 := hx.cell2
    have p3 := hx.cell3
    have p4 := hx.cell4
    clear hcov
    go_wp2_with fail
    refine HC.out.mono ?_
    rintro e w3 ⟨c, rfl, hiff, hb⟩
    have hx3 := hx.below hb hx.lt
    have hB3 := hB.trans (hb.mono hB.size)
    clear hb hB HC hx p0 p1 p2 p3 p4
    cases c with
    | true =>
      have hjk : j = k := by
        by_cases e : j < k
        · exact absurd (hiff.1 rfl) (HF.out.2.2.1 j e)
        · omega
      have HJ := Lib.hid hjk
      clear hiff hjk
      go_wp2
      go_ret
      exact ⟨by rw [HJ.out]; rfl, B2.trans (hB3.mono B2.size)⟩
    | false =>
      have hjk : j < k := by
        by_cases e : j = k
        · subst e
          exact Bool.noConfusion (hiff.2 HF.out.2.1)
        · omega
      clear hiff
      go_wp2
      go_roundw
      case rel => exact ⟨j + 1, by omega, by go_num, hx3, hB3⟩
      case measure => simp [intOf]; omega

set_option maxHeartbeats 4000000 in
theorem implRectRank_any (ao : Option Addr) (ca : Nat) (xs : List Int) (k : Nat) (w : World) (hk : relIn xs = true → k ≤ (fullL xs).length ∧ LeastC xs.length (fullL xs) xs k) (hl : xs.length ≤ 1048576) (hx : Rd w ao xs) :
    Calls Try.prog 28 #[.slice ao xs.length ca] w fun e w' => e = .returned (.tuple #[.int .i64 (rkI (relIn xs) k), .bool (relIn xs)]) ∧ Below w.heap.size w w' := by
  cases hp : relIn xs with
  | false =>
    have HP := Lib.hid hp
    clear hp
    go_enter Try.func28, Try.ntmps28
    go_wp2_with (go_at_call 40; refine (relationFrom_no _ _ _ _ hl HP.out hx).mono ?_; rintro e w1 ⟨rfl, hb⟩)
    go_ret2
    exact ⟨rfl, hb.alloc hb.size _⟩
  | true =>
    obtain ⟨hk1, hk2⟩ := hk hp
    have R := Rl.of hp
    have h16 : (fullL xs).length ≤ 16 := Nat.le_trans (full_len xs _) (pow_le16 R.four)
    have HA := Lib.hid (fun w => rank_any R k hk2 (by omega) w)
    have HP := Lib.hid hp
    clear hp R hk hk1 hk2 h16
    go_enter Try.func28, Try.ntmps28
    go_wp2_with fail
    refine (relationFrom_yes _ _ _ _ HP.out hx).mono ?_
    rintro e w1 ⟨rfl, hb⟩
    have x1 := RelAt.new w1 xs
    have B1 := hb.alloc hb.size (.cells #[.int .i64 xs.length, .int .i64 (rowAt xs 0), .int .i64 (rowAt xs 1), .int .i64 (rowAt xs 2), .int .i64 (rowAt xs 3)] 50)
    have p0 := x1.cell0
    have p1 := x1.cell1
    have p2 := x1.cell2
    have p3 := x1.cell3
    have p4 := x1.cell4
    clear x1 hb
    go_wp2_with fail
    refine (HA.out _).mono ?_
    rintro e w2 ⟨rfl, hb⟩
    have B2 := B1.trans (hb.mono B1.size)
    clear hb p0 p1 p2 p3 p4
    go_wp2
    go_ret2
    exact ⟨rfl, B2⟩
end Go.Proofs.Ytpbkgdohfnjjpab
