/-
  Whether a list is an equivalence, of the program and of the model: equivalenceFrom, twoEquivalencesFrom, EquIn, EquMeet.
-/
import Derived.Test.YtillmjnkhkcedaaHH
import Derived.Test.YtillmjnkhkcedaaJA
namespace Go.Proofs.Ytillmjnkhkcedaa
open Go.RowKit

/-- the letters r, s, t -/
def rstT : ByteArray := ⟨#[114, 115, 116]⟩
theorem rst_text : textTo rstT risat rstT.size = true := by decide +kernel
theorem rst_all (xs : List Int) : allK xs rstT = (kindR xs && (kindS xs && kindT xs)) := by
  have e : allK xs rstT = ((List.range 3).all fun i => kindB (byt rstT i) xs) := rfl
  rw [e]
  have h0 : kindB (byt rstT 0) xs = kindR xs := rfl
  have h1 : kindB (byt rstT 1) xs = kindS xs := rfl
  have h2 : kindB (byt rstT 2) xs = kindT xs := rfl
  rw [show List.range 3 = [0, 1, 2] from rfl]
  simp [h0, h1, h2]
theorem equ_yes {xs : List Int} (h : equB xs = true) : relIn xs = true ∧ (kindR xs && (kindS xs && kindT xs)) = true := by
  unfold equB at h
  rw [Bool.and_eq_true] at h
  exact h
theorem specEquIn_any (ao : Option Addr) (ca : Nat) (xs : List Int) (w : World) (hl : xs.length ≤ 1048576) (hx : Rd w ao xs) :
    Calls Try.prog 87 #[.slice ao xs.length ca] w fun e w' => e = .returned (.bool (equB xs)) ∧ Below w.heap.size w w' := by
  have h1 := specRelIn_any ao ca xs w hl hx
  cases hp : relIn xs with
  | false =>
    have he : equB xs = false := by unfold equB; rw [hp]; rfl
    rw [hp] at h1
    rw [he]
    have H1 := Lib.hid h1
    clear h1 hp he hx
    go_enter Try.func87, Try.ntmps87
    go_wp2_with fail
    refine H1.out.mono ?_
    rintro e w1 ⟨rfl, hd⟩
    go_wp2
    go_ret
    exact ⟨rfl, hd.below _⟩
  | true =>
    have he : equB xs = allK xs rstT := by rw [rst_all]; unfold equB; rw [hp, Bool.true_and]
    have h2 := fun wr h => l3All_any (Rl.of hp) rstT ao ca wr (by decide) (fun k hk => letters_of rst_text k hk) h
    rw [← he] at h2
    rw [hp] at h1
    have H1 := Lib.hid h1
    have H2 := Lib.hid h2
    clear h1 h2 hp he
    go_enter Try.func87, Try.ntmps87
    go_wp2_with fail
    refine H1.out.mono ?_
    rintro e w1 ⟨rfl, hd⟩
    have hx1 := hd.rd hx
    have hh : w1.heap.size = w.heap.size := by rw [hd.heap]
    have HH := Lib.hid hh
    clear hh
    go_wp2_with fail
    refine (H2.out _ hx1).mono ?_
    rintro e w2 ⟨rfl, hb⟩
    go_wp2
    go_ret
    rw [HH.out] at hb
    exact ⟨rfl, (hd.below _).trans hb⟩
end Go.Proofs.Ytillmjnkhkcedaa
