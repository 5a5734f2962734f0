/-
  The contract of the model's SpaceSame.
-/
import Derived.Test.YtgmjdkhegbdbjaaSPE
import Derived.Test.YtgmjdkhegbdbjaaBYL
namespace Go.Proofs.Ytgmjdkhegbdbjaa
open Go.RowKit

/-- the model's word -/
def ssB (xs ys : List Int) : Bool := twoIn xs ys && decide (spL xs = spL ys)
theorem ssB_is (xs ys : List Int) : ssB xs ys = (relIn xs && (relIn ys && (decide (xs.length = ys.length) && decide (evL xs = evL ys)))) := by
  unfold ssB twoIn evL
  cases relIn xs <;> cases relIn ys <;> simp [ifR]

set_option maxHeartbeats 4000000 in
theorem specSpaceSame_any (ao bo : Option Addr) (ca cb : Nat) (xs ys : List Int) (w : World) (hl : xs.length ≤ 1048576) (hl2 : ys.length ≤ 1048576) (hx : Rd w ao xs) (hy : Rd w bo ys) :
    Calls Try.prog 22 #[.slice ao xs.length ca, .slice bo ys.length cb] w fun e w' => e = .returned (.bool (ssB xs ys)) ∧ Below w.heap.size w w' := by
  have h1 := specSpaceOf_any ao ca xs w hl hx
  have h2 : ∀ W, Rd W bo ys → Calls Try.prog 12 #[.slice bo ys.length cb] W (Gave W (evL ys) (relIn ys)) := fun W h => specSpaceOf_any bo cb ys W hl2 h
  rw [ssB_is]
  have hn1 := evL_len xs
  have hn2 := evL_len ys
  rw [show ifR (relIn xs) (spL xs) = evL xs from rfl] at h1
  generalize evL xs = L at h1 hn1 ⊢
  generalize evL ys = M at h2 hn2 ⊢
  generalize relIn xs = ok at h1 ⊢
  generalize relIn ys = ok2 at h2 ⊢
  have HY := Lib.hid hy
  have H1 := Lib.hid h1
  have H2 := Lib.hid h2
  clear h1 h2 hx hy
  go_enter Try.func22, Try.ntmps22
  go_wp2_with fail
  refine H1.out.mono ?_
  rintro e w1 ⟨v, rfl, ho, hb⟩
  obtain ⟨aw, cw, rfl, hL⟩ := read_rd ho
  have HL := Lib.hid hL
  have HY1 := Lib.hid (HY.out.below hb)
  have HB := Lib.hid hb
  clear hL hb ho
  go_wp2_with fail
  refine (H2.out _ HY1.out).mono ?_
  rintro e w2 ⟨v, rfl, ho, hb⟩
  obtain ⟨bw, cw2, rfl, hM⟩ := read_rd ho
  have HM := Lib.hid hM
  have HL2 := Lib.hid (HL.out.below hb)
  have HB2 := Lib.hid (HB.out.trans (hb.mono HB.out.size))
  clear hM hb ho HB H1 H2
  cases ok with
  | false =>
    go_wp2
    go_ret
    exact ⟨rfl, HB2.out⟩
  | true =>
    cases ok2 with
    | false =>
      go_wp2
      go_ret
      exact ⟨rfl, HB2.out⟩
    | true =>
      by_cases hn : xs.length = ys.length
      · have hlen := Lib.hid hn
        have he : ((xs.length : Int) == (ys.length : Int)) = true := by simp [hn]
        clear hn
        go_wp2_with fail
        refine (l2Equal_any _ _ _ _ L M _ (by omega) (by omega) HL2.out HM.out).mono ?_
        rintro e w3 ⟨rfl, hd⟩
        go_wp2
        go_ret
        exact ⟨by rw [decide_eq_true hlen.out]; rfl, HB2.out.trans (hd.below _)⟩
      · have hlen := Lib.hid hn
        have he : ((xs.length : Int) == (ys.length : Int)) = false := by rw [beq_eq_false_iff_ne]; omega
        clear hn
        go_wp2
        go_ret
        exact ⟨by rw [decide_eq_false hlen.out]; rfl, HB2.out⟩
end Go.Proofs.Ytgmjdkhegbdbjaa
