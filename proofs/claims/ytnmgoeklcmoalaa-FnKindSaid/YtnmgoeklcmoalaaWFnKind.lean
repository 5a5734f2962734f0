/-
  The walk of FnKind, out of the contracts of the draw and of the functions that it calls; for whatever bytes.
-/
import Derived.Test.YtnmgoeklcmoalaaRU
import Derived.Test.YtnmgoeklcmoalaaRT
import Derived.Test.YtnmgoeklcmoalaaGB
import Derived.Test.YtnmgoeklcmoalaaHH
namespace Go.Proofs.Ytnmgoeklcmoalaa
open Go.RowKit

theorem fnKind_long (ao : Option Addr) (cap n : Nat) (w : World) (hm : n ≤ maxLen) (hl : ¬ n ≤ 1048576) :
    Calls Try.prog 10 #[.slice ao n cap] w fun e w' => e = .returned (.bool true) ∧ Below w.heap.size w w' := by
  unfold maxLen at hm
  go_enter Try.func10, Try.ntmps10
  go_wp2
  go_ret
  exact ⟨rfl, Below.refl _ _⟩

set_option maxHeartbeats 8000000 in
theorem fnKind_walk (ao : Option Addr) (c : Nat) (bs : List Nat) (w : World) (hl : bs.length ≤ 1048576) (hb : RdB w ao bs) (hc : bs.length ≤ c) (hbA : bs ≠ [] → ∀ a, ao = some a → a.block < w.heap.size) :
    Calls Try.prog 10 #[.slice ao bs.length c] w fun e w' => e = .returned (.bool true) ∧ Below w.heap.size w w' := by
  have HD := Lib.hid (drawKindIn_any ao c bs w hb hc hbA)
  clear hb hbA
  go_enter Try.func10, Try.ntmps10
  go_wp2_with fail
  refine HD.out.mono ?_
  rintro e w1 ⟨v, a, st, rfl, hrl, hst, ho1, B1⟩
  obtain ⟨aa, ac, rfl, ra⟩ := row_rd ho1
  have hl1 : a.length ≤ 1048576 := by omega
  have hl2 : st.size ≤ 1048576 := by omega
  clear ho1 HD
  cases hp : kindInB a st with
  | false =>
    have hI := fun w h => implKindIn_any aa ac a st w hl1 hl2 h
    have hS := fun w h => specKindIn_any aa ac a st w hl1 hl2 h
    rw [hp] at hI hS
    have HC := Lib.hid (And.intro hI hS)
    clear hI hS hp
    go_wp2_with fail
    refine (HC.out.1 _ ra).mono ?_
    rintro e w2 ⟨rfl, b2⟩
    have ra_2 := ra.below b2
    have B2 := B1.trans (b2.mono B1.size)
    clear b2 B1 ra
    go_wp2_with fail
    refine (HC.out.2 _ ra_2).mono ?_
    rintro e w3 ⟨rfl, b3⟩
    have ra_3 := ra_2.below b3
    have B3 := B2.trans (b3.mono B2.size)
    clear b3 B2 ra_2
    go_wp2
    go_ret
    exact ⟨rfl, B3⟩
  | true =>
    have hI := fun w h => implKindIn_any aa ac a st w hl1 hl2 h
    have hS := fun w h => specKindIn_any aa ac a st w hl1 hl2 h
    rw [hp] at hI hS
    have R1 : Rl a.length a := Rl.of (by unfold kindInB at hp; rw [Bool.and_eq_true, Bool.and_eq_true] at hp; exact hp.1.1)
    have hT := fun w h => cTurn R1 aa ac w h
    have hE := fun i (hi : i < st.size) w h => implKindIn_any aa ac a (st.extract i (i + 1)) w hl1 (by rw [cut_size st i hi]; decide) h
    have hE2 : ∀ i, i < st.size → kindInB a (st.extract i (i + 1)) = true := fun i hi => kind_each hp i hi
    have h1 := fun w h => implKindIn_any aa ac a ⟨#[116]⟩ w hl1 (by decide) h
    have h2 := fun ao ca w h => implKindIn_any ao ca (turnL a) ⟨#[116]⟩ w (rl_short R1.turn) (by decide) h
    have h3 := fun w h => implKindIn_any aa ac a ⟨#[114]⟩ w hl1 (by decide) h
    have h4 := fun ao ca w h => implKindIn_any ao ca (turnL a) ⟨#[114]⟩ w (rl_short R1.turn) (by decide) h
    rw [in_tT R1] at h2
    rw [in_rT R1] at h4
    obtain ⟨lb, Elb⟩ : ∃ kk, turnL a = kk := ⟨_, rfl⟩
    rw [Elb] at hT
    rw [Elb] at h2
    rw [Elb] at h4
    obtain ⟨kt, Ekt⟩ : ∃ kk, kindInB a ⟨#[116]⟩ = kk := ⟨_, rfl⟩
    rw [Ekt] at h1
    rw [Ekt] at h2
    obtain ⟨kr, Ekr⟩ : ∃ kk, kindInB a ⟨#[114]⟩ = kk := ⟨_, rfl⟩
    rw [Ekr] at h3
    rw [Ekr] at h4
    have e1 : (kt == kt) = true := by simp
    have e2 : (kr == kr) = true := by simp
    have HC := Lib.hid (And.intro hI (And.intro hS hT))
    have HE := Lib.hid (And.intro hE hE2)
    have H1 := Lib.hid h1
    have H2 := Lib.hid h2
    have H3 := Lib.hid h3
    have H4 := Lib.hid h4
    clear hI hS hT hE hE2 h1 h2 h3 h4 hp R1 Elb Ekt Ekr
    go_wp2_with fail
    refine (HC.out.1 _ ra).mono ?_
    rintro e w2 ⟨rfl, b2⟩
    have ra_2 := ra.below b2
    have B2 := B1.trans (b2.mono B1.size)
    clear b2 B1 ra
    go_wp2_with fail
    refine (HC.out.2.1 _ ra_2).mono ?_
    rintro e w3 ⟨rfl, b3⟩
    have ra_3 := ra_2.below b3
    have B3 := B2.trans (b3.mono B2.size)
    clear b3 B2 ra_2
    go_wp2_with fail
    refine (HC.out.2.2 _ ra_3).mono ?_
    rintro e w4 ⟨v, rfl, ho, b4⟩
    obtain ⟨ba, bc, rfl, rb_4⟩ := row_rd ho
    clear ho
    have ra_4 := ra_3.below b4
    have B4 := B3.trans (b4.mono B3.size)
    clear b4 B3 ra_3
    have HRA := Lib.hid ra_4
    have HRB := Lib.hid rb_4
    have HBB := Lib.hid B4
    clear ra_4 rb_4 B4
    go_wp2
    go_loopw [9] (fun i wr => ∃ t : Nat, t ≤ st.size ∧ i = .int .i64 t ∧ Below w4.heap.size w4 wr)
      (fun i _ => st.size - (intOf i).toNat)
    case atStart => exact ⟨0, Nat.zero_le _, rfl, Below.refl _ _⟩
    case round =>
      obtain ⟨t, ht, rfl, hB⟩ := hrel
      by_cases hlt : t < st.size
      · have hi1 : ((t : Nat) : Int) < (st.size : Int) := by omega
        have hc := HE.out.1 t hlt wr (HRA.out.below hB)
        rw [HE.out.2 t hlt] at hc
        have HX := Lib.hid hc
        have hbig : ¬ 9223372036854775807 < (min (t + 1) st.size - t) := by omega
        clear hc
        go_wp2_with fail
        refine HX.out.mono ?_
        rintro e wx ⟨rfl, bx⟩
        have hBx := hB.trans (bx.mono hB.size)
        clear bx hB HX
        go_wp2
        go_roundw
        case rel => exact ⟨t + 1, by omega, by go_num, hBx⟩
        case measure => simp [intOf]; omega
      · obtain rfl : t = st.size := by omega
        go_wp2_with fail
        refine (H1.out _ (HRA.out.below hB)).mono ?_
        rintro e wx ⟨rfl, bx⟩
        have hBx := hB.trans (bx.mono hB.size)
        clear bx hB
        go_wp2_with fail
        refine (H2.out ba bc _ (HRB.out.below hBx)).mono ?_
        rintro e wy ⟨rfl, bx⟩
        have hBy := hBx.trans (bx.mono hBx.size)
        clear bx hBx
        go_wp2_with fail
        refine (H3.out _ (HRA.out.below hBy)).mono ?_
        rintro e wz ⟨rfl, bx⟩
        have hBz := hBy.trans (bx.mono hBy.size)
        clear bx hBy
        go_wp2_with fail
        refine (H4.out ba bc _ (HRB.out.below hBz)).mono ?_
        rintro e wu ⟨rfl, bx⟩
        have hBu := hBz.trans (bx.mono hBz.size)
        clear bx hBz
        go_wp2
        go_ret
        exact ⟨rfl, HBB.out.trans (hBu.mono HBB.out.size)⟩
end Go.Proofs.Ytnmgoeklcmoalaa
