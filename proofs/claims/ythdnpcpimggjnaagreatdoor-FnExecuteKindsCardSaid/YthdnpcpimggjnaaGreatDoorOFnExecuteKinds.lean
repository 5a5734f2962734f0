/-
  From a contract over one goroutine to the row of FnExecuteKinds: the closed facts of the row, each apart (together they take more memory than a build has).
-/
import Derived.Test.YthdnpcpimggjnaaGreatDoorRows
import Derived.Conc.LeavingOf
import Derived.LaidHandle
namespace Go.Proofs.YthdnpcpimggjnaaGreatDoor.fnExecuteKinds
set_option maxRecDepth 100000
abbrev laidL : List (String × DataW Unit) := [("math/bits.deBruijn32tab", Rows.laid_math_bits_deBruijn32tab), ("math/bits.deBruijn64tab", Rows.laid_math_bits_deBruijn64tab), ("internal/strconv.uint64pow10", Rows.laid_internal_strconv_uint64pow10), ("unicode/utf8.acceptRanges", Rows.laid_unicode_utf8_acceptRanges), ("unicode/utf8.first", Rows.laid_unicode_utf8_first)]
theorem c1 : Rows.fnExecuteKindsRow.wf (OpenSpec.ofChange Rows.fnExecuteKindsSpec) = true := by kernel_rfl
theorem c10 : (Rows.fnExecuteKindsRow.inPlace == Tryz.prog.inPlace 3) = true := by kernel_rfl
theorem c11 : (Rows.fnExecuteKindsRow.unfollowed == Tryz.prog.unfollowed 3) = true := by kernel_rfl
theorem c12 : (Rows.fnExecuteKindsRow.recurses == Tryz.prog.recurses 3) = true := by kernel_rfl
theorem c13 : (Rows.fnExecuteKindsRow.named == Tryz.prog.varsNamed 3) = true := by kernel_rfl
theorem closed : joinedFacts Tryz.prog 3 Tryz.f3 Rows.fnExecuteKindsSpec Rows.fnExecuteKindsRow = true := by
  unfold joinedFacts
  rw [c1, c10, c11, c12, c13]
  kernel_rfl
theorem pre_eq {H : Type} (enc : TypeId × Value → H) : Rows.fnExecuteKindsRow.pre enc Tryz.pinned.checked.prog Tryz.f3 (OpenSpec.ofChange Rows.fnExecuteKindsSpec) = fun w args => (Rows.fnExecuteKindsSpec.pre enc Tryz.prog Tryz.f3 [] false w args ∧ laidMetH Tryz.prog laidL w) ∧ sizedMet enc Tryz.prog Tryz.f3 (OpenSpec.ofChange Rows.fnExecuteKindsSpec) false w args := rfl
theorem post_eq {H : Type} (enc : TypeId × Value → H) : Rows.fnExecuteKindsSpec.post enc Tryz.pinned.checked.prog Tryz.f3 Rows.fnExecuteKindsRow.apart Rows.fnExecuteKindsRow.fresh Rows.fnExecuteKindsRow.handsOn Rows.fnExecuteKindsRow.again = Rows.fnExecuteKindsSpec.post enc Tryz.prog Tryz.f3 false true false false := rfl
theorem as_eq : Rows.fnExecuteKindsRow.assume = {} := rfl
theorem over_of (h : ∀ os : Os, os.Started → ∀ (H : Type) (enc : TypeId × Value → H),
      ReturnsInLeavingWide {} Tryz.checked os 3 .any (fun w args => (Rows.fnExecuteKindsSpec.pre enc Tryz.prog Tryz.f3 [] false w args ∧ laidMetH Tryz.prog laidL w) ∧ sizedMet enc Tryz.prog Tryz.f3 (OpenSpec.ofChange Rows.fnExecuteKindsSpec) false w args) (Rows.fnExecuteKindsSpec.post enc Tryz.prog Tryz.f3 false true false false)) :
    Rows.fnExecuteKindsRow.holds Tryz.pinned (OpenSpec.ofChange Rows.fnExecuteKindsSpec) :=
  OpenClaim.holds_of_wide_leaving 3 Tryz.f3 rfl rfl rfl rfl rfl rfl rfl ⟨rfl, rfl, rfl, rfl, rfl⟩ rfl rfl rfl rfl rfl (by kernel_rfl) Tryz.func3 closed
    (of_decide_eq_true (by kernel_rfl)) (by unfold Func.isWrapper; first | (rw [if_pos (by decide +kernel)]; kernel_rfl) | (rw [if_neg (by decide +kernel)]; exact ⟨rfl, rfl⟩))
    (fun os started H enc _ => by
      rw [pre_eq, post_eq, as_eq]
      exact h os started H enc)
end Go.Proofs.YthdnpcpimggjnaaGreatDoor.fnExecuteKinds
