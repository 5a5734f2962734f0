/-
  EquCount, of the program and of the model: the ways to put points into classes.
-/
import Derived.Test.YtfcpfhffkfbgdaaH
namespace Go.Proofs.Ytfcpfhffkfbgdaa
open Go.RowKit

/-- the ways to put points into classes, of which some are there -/
def ways : Nat → Nat → Nat
  | 0, _ => 1
  | p + 1, c => c * ways p c + ways p (c + 1)
theorem ways_le : ∀ p c : Fin 5, p.val + c.val ≤ 4 → ways p.val c.val ≤ 400 := by decide +kernel

theorem waysToPut_any : ∀ (p c : Nat), p + c ≤ 4 → ∀ (x y : Int), x = (p : Int) → y = (c : Int) → ∀ w : World,
    Calls Try.prog 65 #[.int .i64 x, .int .i64 y] w fun e w' => e = .returned (.int .i64 ((ways p c : Nat) : Int)) ∧ w = w'
  | 0, c, h, x, y, hx, hy, w => by
    subst hx hy
    go_enter Try.func65, Try.ntmps65
    go_wp2
    go_ret
    exact ⟨rfl, rfl⟩
  | p + 1, c, h, x, y, hx, hy, w => by
    have H1 := Lib.hid (waysToPut_any p c (by omega))
    have H2 := Lib.hid (waysToPut_any p (c + 1) (by omega))
    have l1 : ways p c ≤ 400 := ways_le ⟨p, by omega⟩ ⟨c, by omega⟩ (by show p + c ≤ 4; omega)
    have l2 : ways p (c + 1) ≤ 400 := ways_le ⟨p, by omega⟩ ⟨c + 1, by omega⟩ (by show p + (c + 1) ≤ 4; omega)
    have he : ((ways (p + 1) c : Nat) : Int) = (c : Int) * (ways p c : Int) + (ways p (c + 1) : Int) := by
      show ((c * ways p c + ways p (c + 1) : Nat) : Int) = _
      simp
    rw [he]
    have hm : (c : Int) * (ways p c : Int) ≤ 4 * 400 := Int.mul_le_mul (by omega) (by omega) (by omega) (by omega)
    have hm0 : 0 ≤ (c : Int) * (ways p c : Int) := Int.mul_nonneg (by omega) (by omega)
    obtain ⟨a, ha⟩ : ∃ a : Int, (ways p c : Int) = a := ⟨_, rfl⟩
    obtain ⟨b, hb⟩ : ∃ b : Int, (ways p (c + 1) : Int) = b := ⟨_, rfl⟩
    have l1' : (ways p c : Int) ≤ 400 := by omega
    have l2' : (ways p (c + 1) : Int) ≤ 400 := by omega
    have l3' : 0 ≤ (ways p (c + 1) : Int) := by omega
    rw [ha] at H1 hm hm0 l1' ⊢
    rw [hb] at H2 l2' l3' ⊢
    have h0 : (x == 0) = false := by simp; omega
    have hx1 : x - 1 = (p : Int) := by omega
    have hy1 : y + 1 = ((c + 1 : Nat) : Int) := by omega
    have b1 : 1 ≤ x ∧ x ≤ 4 := by omega
    have b2 : 0 ≤ y ∧ y ≤ 4 := by omega
    rw [← hy] at hm hm0 ⊢
    have K1 := Lib.hid (fun w' => H1.out (x - 1) y hx1 hy w')
    have K2 := Lib.hid (fun w' => H2.out (x - 1) (y + 1) hx1 hy1 w')
    clear H1 H2 l1 l2 he ha hb hx hy hx1 hy1 h
    obtain ⟨b1, b1'⟩ := b1
    obtain ⟨b2, b2'⟩ := b2
    go_enter Try.func65, Try.ntmps65
    go_wp2_with fail
    refine (K1.out _).mono ?_
    rintro e w1 ⟨rfl, rfl⟩
    go_wp2_with fail
    refine (K2.out _).mono ?_
    rintro e w1 ⟨rfl, rfl⟩
    go_wp2
    go_ret
    exact ⟨rfl, rfl⟩

/-- the number of equivalences -/
def equN (n : Int) : Int := if inB n 1 4 then ((ways n.toNat 0 : Nat) : Int) else 0
theorem implEquCount_any (n : Int) (w : World) :
    Calls Try.prog 31 #[.int .i64 n] w fun e w' => e = .returned (.tuple #[.int .i64 (equN n), .bool (inB n 1 4)]) ∧ Below w.heap.size w w' := by
  have hc := isCount_any n w
  unfold equN
  cases hp : inB n 1 4 with
  | false =>
    rw [hp] at hc
    have HC := Lib.hid hc
    clear hc hp
    go_enter Try.func31, Try.ntmps31
    go_wp2_with fail
    refine HC.out.mono ?_
    rintro e w1 ⟨rfl, rfl⟩
    go_wp2
    go_ret2
    exact ⟨rfl, Below.refl _ _⟩
  | true =>
    rw [hp] at hc
    have h : 1 ≤ n ∧ n ≤ 4 := of_decide_eq_true hp
    have HW := Lib.hid (waysToPut_any n.toNat 0 (by omega) n 0 (by omega) rfl)
    have HC := Lib.hid hc
    clear hc hp h
    go_enter Try.func31, Try.ntmps31
    go_wp2_with fail
    refine HC.out.mono ?_
    rintro e w1 ⟨rfl, rfl⟩
    go_wp2_with fail
    refine (HW.out _).mono ?_
    rintro e w1 ⟨rfl, rfl⟩
    go_wp2
    go_ret2
    exact ⟨rfl, Below.refl _ _⟩
end Go.Proofs.Ytfcpfhffkfbgdaa
