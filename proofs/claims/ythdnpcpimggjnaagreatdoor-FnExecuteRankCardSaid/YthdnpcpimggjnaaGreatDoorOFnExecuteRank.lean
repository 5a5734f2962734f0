/-
  From a contract over one goroutine to the row of FnExecuteRank: the closed facts of the row, each apart (together they take more memory than a build has).
-/
import Derived.Test.YthdnpcpimggjnaaGreatDoorRows
import Derived.Conc.LeavingOf
import Derived.LaidHandle
namespace Go.Proofs.YthdnpcpimggjnaaGreatDoor.fnExecuteRank
set_option maxRecDepth 100000
abbrev laidL : List (String × DataW Unit) := [("math/bits.deBruijn32tab", Rows.laid_math_bits_deBruijn32tab), ("math/bits.deBruijn64tab", Rows.laid_math_bits_deBruijn64tab), ("internal/strconv.uint64pow10", Rows.laid_internal_strconv_uint64pow10), ("unicode/utf8.acceptRanges", Rows.laid_unicode_utf8_acceptRanges), ("unicode/utf8.first", Rows.laid_unicode_utf8_first)]
theorem c1 : Rows.fnExecuteRankRow.wf (OpenSpec.ofChange Rows.fnExecuteRankSpec) = true := by kernel_rfl
theorem c10 : (Rows.fnExecuteRankRow.inPlace == Tryz.prog.inPlace 4) = true := by kernel_rfl
theorem c11 : (Rows.fnExecuteRankRow.unfollowed == Tryz.prog.unfollowed 4) = true := by kernel_rfl
theorem c12 : (Rows.fnExecuteRankRow.recurses == Tryz.prog.recurses 4) = true := by kernel_rfl
theorem c13 : (Rows.fnExecuteRankRow.named == Tryz.prog.varsNamed 4) = true := by kernel_rfl
theorem closed : joinedFacts Tryz.prog 4 Tryz.f4 Rows.fnExecuteRankSpec Rows.fnExecuteRankRow = true := by
  unfold joinedFacts
  rw [c1, c10, c11, c12, c13]
  kernel_rfl
theorem pre_eq {H : Type} (enc : TypeId × Value → H) : Rows.fnExecuteRankRow.pre enc Tryz.pinned.checked.prog Tryz.f4 (OpenSpec.ofChange Rows.fnExecuteRankSpec) = fun w args => (Rows.fnExecuteRankSpec.pre enc Tryz.prog Tryz.f4 [] false w args ∧ laidMetH Tryz.prog laidL w) ∧ sizedMet enc Tryz.prog Tryz.f4 (OpenSpec.ofChange Rows.fnExecuteRankSpec) false w args := rfl
theorem post_eq {H : Type} (enc : TypeId × Value → H) : Rows.fnExecuteRankSpec.post enc Tryz.pinned.checked.prog Tryz.f4 Rows.fnExecuteRankRow.apart Rows.fnExecuteRankRow.fresh Rows.fnExecuteRankRow.handsOn Rows.fnExecuteRankRow.again = Rows.fnExecuteRankSpec.post enc Tryz.prog Tryz.f4 false true false false := rfl
theorem as_eq : Rows.fnExecuteRankRow.assume = {} := rfl
theorem over_of (h : ∀ os : Os, os.Started → ∀ (H : Type) (enc : TypeId × Value → H),
      ReturnsInLeavingWide {} Tryz.checked os 4 .any (fun w args => (Rows.fnExecuteRankSpec.pre enc Tryz.prog Tryz.f4 [] false w args ∧ laidMetH Tryz.prog laidL w) ∧ sizedMet enc Tryz.prog Tryz.f4 (OpenSpec.ofChange Rows.fnExecuteRankSpec) false w args) (Rows.fnExecuteRankSpec.post enc Tryz.prog Tryz.f4 false true false false)) :
    Rows.fnExecuteRankRow.holds Tryz.pinned (OpenSpec.ofChange Rows.fnExecuteRankSpec) :=
  OpenClaim.holds_of_wide_leaving 4 Tryz.f4 rfl rfl rfl rfl rfl rfl rfl ⟨rfl, rfl, rfl, rfl, rfl⟩ rfl rfl rfl rfl rfl (by kernel_rfl) Tryz.func4 closed
    (of_decide_eq_true (by kernel_rfl)) (by unfold Func.isWrapper; first | (rw [if_pos (by decide +kernel)]; kernel_rfl) | (rw [if_neg (by decide +kernel)]; exact ⟨rfl, rfl⟩))
    (fun os started H enc _ => by
      rw [pre_eq, post_eq, as_eq]
      exact h os started H enc)
end Go.Proofs.YthdnpcpimggjnaaGreatDoor.fnExecuteRank
