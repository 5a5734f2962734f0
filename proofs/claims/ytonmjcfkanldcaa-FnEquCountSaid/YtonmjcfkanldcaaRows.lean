/-
  No cell of these rows narrows 'for every input' (looked for: loops, veiled, ifaces, maps, wideKeys, modest, calm, conditions, laid).
  DERIVED. THE GIVEN ROWS OF THIS SEAT. 11 by the template 'for every input the law returns true; each argument reads behind the call as it read before'; 0 by the template 'total and deterministic' (their statements: YtonmjcfkanldcaaTotals.lean).
  GIVEN WITH THE SEED: the statements are not yours to turn. If you find one false, say at which input.
  Laid BY PROGRAM, IN A SANDBOX (cutbox-rows.mjs): the forced cells as the released guide's own fill.sh prints them over the translation ebff5d5d173ee869… (all of the seat's roots in one cut). By AI agents, Wed Nov 11 2026. No macro, syntax, notation, axiom, sorry.
-/
import Derived.Test.YtonmjcfkanldcaaChecked
import GoSem.Claim
import GoSem.ClaimJoined
import GoSem.ClaimMapViews
import Derived.JoinedTies
import Derived.KernelRfl
namespace Go.Proofs.Ytonmjcfkanldcaa
/- THE CELL 'sum', in the pinned program and in every row, IS THE sha256 OF THE DUMP (.gsa) THAT YtonmjcfkanldcaaProg.lean LOADS. Nothing in Lean hashes anything: it is a label: what it is worth is what the hold of that sum in a sandbox is worth. -/
noncomputable def Try.pinned : Pinned := { name := "ytonmjcfkanldcaa", sum := "ebff5d5d173ee869e6035f11ed1de510f8c6b4243297ea59c7c164e72c1ac2f0", checked := Try.checked }
namespace Rows
def none {H : Type} : Left H := { results := [], args := [] }

/-- 'laws.FnKindCount': WHATEVER THE INPUT: true; the input reads as it did. -/
def fnKindCountSpec : ChangeSpec := { name := "fnKindCount", fn := fun _ => fun
  | [d] => { results := [.lit (.bool true)], args := [d] }
  | _ => none }
def fnKindCountRow : OpenClaim := { program := "ytonmjcfkanldcaa", sum := "ebff5d5d173ee869e6035f11ed1de510f8c6b4243297ea59c7c164e72c1ac2f0", func := "loop.example/fewrelations/laws.FnKindCount", spec := "fnKindCount", inPlace := ["internal/bytealg.IndexByteString"], unfollowed := true, recurses := true, apart := false }
def FnKindCountSaid : Prop := fnKindCountRow.holds Try.pinned (OpenSpec.ofChange fnKindCountSpec)

/-- ITS FALSE NEIGHBOUR: 'it returns false'. Refute it at one input. -/
def fnKindCountWrong : ChangeSpec := { name := "fnKindCount", fn := fun _ => fun
  | [d] => { results := [.lit (.bool false)], args := [d] }
  | _ => none }
def FnKindCountWrongFalsely : Prop := fnKindCountRow.holds Try.pinned (OpenSpec.ofChange fnKindCountWrong)

/-- 'laws.FnClasses': WHATEVER THE INPUT: true; the input reads as it did. -/
def fnClassesSpec : ChangeSpec := { name := "fnClasses", fn := fun _ => fun
  | [d] => { results := [.lit (.bool true)], args := [d] }
  | _ => none }
def fnClassesRow : OpenClaim := { program := "ytonmjcfkanldcaa", sum := "ebff5d5d173ee869e6035f11ed1de510f8c6b4243297ea59c7c164e72c1ac2f0", func := "loop.example/fewrelations/laws.FnClasses", spec := "fnClasses", inPlace := ["internal/bytealg.IndexByteString"], unfollowed := true, recurses := true, apart := false }
def FnClassesSaid : Prop := fnClassesRow.holds Try.pinned (OpenSpec.ofChange fnClassesSpec)

/-- ITS FALSE NEIGHBOUR: 'it returns false'. Refute it at one input. -/
def fnClassesWrong : ChangeSpec := { name := "fnClasses", fn := fun _ => fun
  | [d] => { results := [.lit (.bool false)], args := [d] }
  | _ => none }
def FnClassesWrongFalsely : Prop := fnClassesRow.holds Try.pinned (OpenSpec.ofChange fnClassesWrong)

/-- 'laws.FnEquCount': WHATEVER THE INPUT: true; the input reads as it did. -/
def fnEquCountSpec : ChangeSpec := { name := "fnEquCount", fn := fun _ => fun
  | [d] => { results := [.lit (.bool true)], args := [d] }
  | _ => none }
def fnEquCountRow : OpenClaim := { program := "ytonmjcfkanldcaa", sum := "ebff5d5d173ee869e6035f11ed1de510f8c6b4243297ea59c7c164e72c1ac2f0", func := "loop.example/fewrelations/laws.FnEquCount", spec := "fnEquCount", recurses := true, apart := false }
def FnEquCountSaid : Prop := fnEquCountRow.holds Try.pinned (OpenSpec.ofChange fnEquCountSpec)

/-- ITS FALSE NEIGHBOUR: 'it returns false'. Refute it at one input. -/
def fnEquCountWrong : ChangeSpec := { name := "fnEquCount", fn := fun _ => fun
  | [d] => { results := [.lit (.bool false)], args := [d] }
  | _ => none }
def FnEquCountWrongFalsely : Prop := fnEquCountRow.holds Try.pinned (OpenSpec.ofChange fnEquCountWrong)

/-- 'laws.FnExactEquIn': WHATEVER THE INPUT: true; the input reads as it did. -/
def fnExactEquInSpec : ChangeSpec := { name := "fnExactEquIn", fn := fun _ => fun
  | [d] => { results := [.lit (.bool true)], args := [d] }
  | _ => none }
def fnExactEquInRow : OpenClaim := { program := "ytonmjcfkanldcaa", sum := "ebff5d5d173ee869e6035f11ed1de510f8c6b4243297ea59c7c164e72c1ac2f0", func := "loop.example/fewrelations/laws.FnExactEquIn", spec := "fnExactEquIn", inPlace := ["internal/bytealg.IndexByteString"], unfollowed := true, recurses := true, apart := false }
def FnExactEquInSaid : Prop := fnExactEquInRow.holds Try.pinned (OpenSpec.ofChange fnExactEquInSpec)

/-- ITS FALSE NEIGHBOUR: 'it returns false'. Refute it at one input. -/
def fnExactEquInWrong : ChangeSpec := { name := "fnExactEquIn", fn := fun _ => fun
  | [d] => { results := [.lit (.bool false)], args := [d] }
  | _ => none }
def FnExactEquInWrongFalsely : Prop := fnExactEquInRow.holds Try.pinned (OpenSpec.ofChange fnExactEquInWrong)

/-- 'laws.FnExactEquClasses': WHATEVER THE INPUT: true; the input reads as it did. -/
def fnExactEquClassesSpec : ChangeSpec := { name := "fnExactEquClasses", fn := fun _ => fun
  | [d] => { results := [.lit (.bool true)], args := [d] }
  | _ => none }
def fnExactEquClassesRow : OpenClaim := { program := "ytonmjcfkanldcaa", sum := "ebff5d5d173ee869e6035f11ed1de510f8c6b4243297ea59c7c164e72c1ac2f0", func := "loop.example/fewrelations/laws.FnExactEquClasses", spec := "fnExactEquClasses", inPlace := ["internal/bytealg.IndexByteString"], unfollowed := true, recurses := true, apart := false }
def FnExactEquClassesSaid : Prop := fnExactEquClassesRow.holds Try.pinned (OpenSpec.ofChange fnExactEquClassesSpec)

/-- ITS FALSE NEIGHBOUR: 'it returns false'. Refute it at one input. -/
def fnExactEquClassesWrong : ChangeSpec := { name := "fnExactEquClasses", fn := fun _ => fun
  | [d] => { results := [.lit (.bool false)], args := [d] }
  | _ => none }
def FnExactEquClassesWrongFalsely : Prop := fnExactEquClassesRow.holds Try.pinned (OpenSpec.ofChange fnExactEquClassesWrong)

/-- 'laws.FnExactEquMeet': WHATEVER THE INPUT: true; the input reads as it did. -/
def fnExactEquMeetSpec : ChangeSpec := { name := "fnExactEquMeet", fn := fun _ => fun
  | [d1, d2] => { results := [.lit (.bool true)], args := [d1, d2] }
  | _ => none }
def fnExactEquMeetRow : OpenClaim := { program := "ytonmjcfkanldcaa", sum := "ebff5d5d173ee869e6035f11ed1de510f8c6b4243297ea59c7c164e72c1ac2f0", func := "loop.example/fewrelations/laws.FnExactEquMeet", spec := "fnExactEquMeet", inPlace := ["internal/bytealg.IndexByteString"], unfollowed := true, recurses := true, apart := false }
def FnExactEquMeetSaid : Prop := fnExactEquMeetRow.holds Try.pinned (OpenSpec.ofChange fnExactEquMeetSpec)

/-- ITS FALSE NEIGHBOUR: 'it returns false'. Refute it at one input. -/
def fnExactEquMeetWrong : ChangeSpec := { name := "fnExactEquMeet", fn := fun _ => fun
  | [d1, d2] => { results := [.lit (.bool false)], args := [d1, d2] }
  | _ => none }
def FnExactEquMeetWrongFalsely : Prop := fnExactEquMeetRow.holds Try.pinned (OpenSpec.ofChange fnExactEquMeetWrong)

/-- 'laws.FnExactEquJoin': WHATEVER THE INPUT: true; the input reads as it did. -/
def fnExactEquJoinSpec : ChangeSpec := { name := "fnExactEquJoin", fn := fun _ => fun
  | [d1, d2] => { results := [.lit (.bool true)], args := [d1, d2] }
  | _ => none }
def fnExactEquJoinRow : OpenClaim := { program := "ytonmjcfkanldcaa", sum := "ebff5d5d173ee869e6035f11ed1de510f8c6b4243297ea59c7c164e72c1ac2f0", func := "loop.example/fewrelations/laws.FnExactEquJoin", spec := "fnExactEquJoin", inPlace := ["internal/bytealg.IndexByteString"], unfollowed := true, recurses := true, apart := false }
def FnExactEquJoinSaid : Prop := fnExactEquJoinRow.holds Try.pinned (OpenSpec.ofChange fnExactEquJoinSpec)

/-- ITS FALSE NEIGHBOUR: 'it returns false'. Refute it at one input. -/
def fnExactEquJoinWrong : ChangeSpec := { name := "fnExactEquJoin", fn := fun _ => fun
  | [d1, d2] => { results := [.lit (.bool false)], args := [d1, d2] }
  | _ => none }
def FnExactEquJoinWrongFalsely : Prop := fnExactEquJoinRow.holds Try.pinned (OpenSpec.ofChange fnExactEquJoinWrong)

/-- 'laws.FnExactEquKernel': WHATEVER THE INPUT: true; the input reads as it did. -/
def fnExactEquKernelSpec : ChangeSpec := { name := "fnExactEquKernel", fn := fun _ => fun
  | [d] => { results := [.lit (.bool true)], args := [d] }
  | _ => none }
def fnExactEquKernelRow : OpenClaim := { program := "ytonmjcfkanldcaa", sum := "ebff5d5d173ee869e6035f11ed1de510f8c6b4243297ea59c7c164e72c1ac2f0", func := "loop.example/fewrelations/laws.FnExactEquKernel", spec := "fnExactEquKernel", unfollowed := true, recurses := true, apart := false }
def FnExactEquKernelSaid : Prop := fnExactEquKernelRow.holds Try.pinned (OpenSpec.ofChange fnExactEquKernelSpec)

/-- ITS FALSE NEIGHBOUR: 'it returns false'. Refute it at one input. -/
def fnExactEquKernelWrong : ChangeSpec := { name := "fnExactEquKernel", fn := fun _ => fun
  | [d] => { results := [.lit (.bool false)], args := [d] }
  | _ => none }
def FnExactEquKernelWrongFalsely : Prop := fnExactEquKernelRow.holds Try.pinned (OpenSpec.ofChange fnExactEquKernelWrong)

/-- 'laws.FnExactEquQuotient': WHATEVER THE INPUT: true; the input reads as it did. -/
def fnExactEquQuotientSpec : ChangeSpec := { name := "fnExactEquQuotient", fn := fun _ => fun
  | [d1, d2] => { results := [.lit (.bool true)], args := [d1, d2] }
  | _ => none }
def fnExactEquQuotientRow : OpenClaim := { program := "ytonmjcfkanldcaa", sum := "ebff5d5d173ee869e6035f11ed1de510f8c6b4243297ea59c7c164e72c1ac2f0", func := "loop.example/fewrelations/laws.FnExactEquQuotient", spec := "fnExactEquQuotient", inPlace := ["internal/bytealg.IndexByteString"], unfollowed := true, recurses := true, apart := false }
def FnExactEquQuotientSaid : Prop := fnExactEquQuotientRow.holds Try.pinned (OpenSpec.ofChange fnExactEquQuotientSpec)

/-- ITS FALSE NEIGHBOUR: 'it returns false'. Refute it at one input. -/
def fnExactEquQuotientWrong : ChangeSpec := { name := "fnExactEquQuotient", fn := fun _ => fun
  | [d1, d2] => { results := [.lit (.bool false)], args := [d1, d2] }
  | _ => none }
def FnExactEquQuotientWrongFalsely : Prop := fnExactEquQuotientRow.holds Try.pinned (OpenSpec.ofChange fnExactEquQuotientWrong)

/-- 'laws.FnExactEquCount': WHATEVER THE INPUT: true; the input reads as it did. -/
def fnExactEquCountSpec : ChangeSpec := { name := "fnExactEquCount", fn := fun _ => fun
  | [d] => { results := [.lit (.bool true)], args := [d] }
  | _ => none }
def fnExactEquCountRow : OpenClaim := { program := "ytonmjcfkanldcaa", sum := "ebff5d5d173ee869e6035f11ed1de510f8c6b4243297ea59c7c164e72c1ac2f0", func := "loop.example/fewrelations/laws.FnExactEquCount", spec := "fnExactEquCount", recurses := true, apart := false }
def FnExactEquCountSaid : Prop := fnExactEquCountRow.holds Try.pinned (OpenSpec.ofChange fnExactEquCountSpec)

/-- ITS FALSE NEIGHBOUR: 'it returns false'. Refute it at one input. -/
def fnExactEquCountWrong : ChangeSpec := { name := "fnExactEquCount", fn := fun _ => fun
  | [d] => { results := [.lit (.bool false)], args := [d] }
  | _ => none }
def FnExactEquCountWrongFalsely : Prop := fnExactEquCountRow.holds Try.pinned (OpenSpec.ofChange fnExactEquCountWrong)

/-- 'laws.FnExactEquKept': WHATEVER THE INPUT: true; the input reads as it did. -/
def fnExactEquKeptSpec : ChangeSpec := { name := "fnExactEquKept", fn := fun _ => fun
  | [d1, d2] => { results := [.lit (.bool true)], args := [d1, d2] }
  | _ => none }
def fnExactEquKeptRow : OpenClaim := { program := "ytonmjcfkanldcaa", sum := "ebff5d5d173ee869e6035f11ed1de510f8c6b4243297ea59c7c164e72c1ac2f0", func := "loop.example/fewrelations/laws.FnExactEquKept", spec := "fnExactEquKept", inPlace := ["internal/bytealg.IndexByteString"], unfollowed := true, recurses := true, apart := false }
def FnExactEquKeptSaid : Prop := fnExactEquKeptRow.holds Try.pinned (OpenSpec.ofChange fnExactEquKeptSpec)

/-- ITS FALSE NEIGHBOUR: 'it returns false'. Refute it at one input. -/
def fnExactEquKeptWrong : ChangeSpec := { name := "fnExactEquKept", fn := fun _ => fun
  | [d1, d2] => { results := [.lit (.bool false)], args := [d1, d2] }
  | _ => none }
def FnExactEquKeptWrongFalsely : Prop := fnExactEquKeptRow.holds Try.pinned (OpenSpec.ofChange fnExactEquKeptWrong)

/- THE SECOND FORM. 'bulk': how many values and letters a reading holds, each counted each time it is reached (what is shared counts as often as it is met; a slice's spare places count too). A statement '..UptoSaid' is the law's where the arguments, and the package variables that the reading takes, are together of bulk at most 1048576: NARROWER than '..Said'. Prove '..Said' where nothing that the law and all that it calls make is longer than what came in: it says more and counts as full. Else prove '..UptoSaid'. A law counts once. -/
mutual
def uptoBulk {H : Type} : DataW H → Nat
  | .lit (.string bytes) => bytes.length + 1
  | .lit _ => 1
  | .nil => 1
  | .ptr d => uptoBulk d + 1
  | .slice elems spare => uptoBulkAll elems + uptoBulkAll spare + 1
  | .agg parts => uptoBulkAll parts + 1
  | .iface _ d => uptoBulk d + 1
  | .map entries => uptoBulkEntries entries + 1
  | .held _ => 1
def uptoBulkAll {H : Type} : List (DataW H) → Nat
  | [] => 0
  | d :: r => uptoBulk d + uptoBulkAll r
def uptoBulkEntries {H : Type} : List (Lit × DataW H) → Nat
  | [] => 0
  | x :: r => uptoBulkEntry x + uptoBulkEntries r
def uptoBulkEntry {H : Type} : Lit × DataW H → Nat
  | (.string bytes, d) => bytes.length + uptoBulk d + 1
  | (_, d) => uptoBulk d + 1
 end
def uptoSmall : (H : Type) → List (DataW H) → Bool := fun _ ds => decide (uptoBulkAll ds ≤ 1048576)
def OpenSpec.upto (s : _root_.Go.ChangeSpec) : _root_.Go.OpenSpec := { _root_.Go.OpenSpec.ofChange s with cond := some uptoSmall }

/-- 'laws.FnKindCount', WHERE WHAT IT READS IS OF BULK AT MOST 1048576: true; the input reads as it did. -/
def fnKindCountUptoRow : OpenClaim := { program := "ytonmjcfkanldcaa", sum := "ebff5d5d173ee869e6035f11ed1de510f8c6b4243297ea59c7c164e72c1ac2f0", func := "loop.example/fewrelations/laws.FnKindCount", spec := "fnKindCount", inPlace := ["internal/bytealg.IndexByteString"], unfollowed := true, recurses := true, apart := false, narrowed := true }
def FnKindCountUptoSaid : Prop := fnKindCountUptoRow.holds Try.pinned (OpenSpec.upto fnKindCountSpec)

/-- 'laws.FnClasses', WHERE WHAT IT READS IS OF BULK AT MOST 1048576: true; the input reads as it did. -/
def fnClassesUptoRow : OpenClaim := { program := "ytonmjcfkanldcaa", sum := "ebff5d5d173ee869e6035f11ed1de510f8c6b4243297ea59c7c164e72c1ac2f0", func := "loop.example/fewrelations/laws.FnClasses", spec := "fnClasses", inPlace := ["internal/bytealg.IndexByteString"], unfollowed := true, recurses := true, apart := false, narrowed := true }
def FnClassesUptoSaid : Prop := fnClassesUptoRow.holds Try.pinned (OpenSpec.upto fnClassesSpec)

/-- 'laws.FnEquCount', WHERE WHAT IT READS IS OF BULK AT MOST 1048576: true; the input reads as it did. -/
def fnEquCountUptoRow : OpenClaim := { program := "ytonmjcfkanldcaa", sum := "ebff5d5d173ee869e6035f11ed1de510f8c6b4243297ea59c7c164e72c1ac2f0", func := "loop.example/fewrelations/laws.FnEquCount", spec := "fnEquCount", recurses := true, apart := false, narrowed := true }
def FnEquCountUptoSaid : Prop := fnEquCountUptoRow.holds Try.pinned (OpenSpec.upto fnEquCountSpec)

/-- 'laws.FnExactEquIn', WHERE WHAT IT READS IS OF BULK AT MOST 1048576: true; the input reads as it did. -/
def fnExactEquInUptoRow : OpenClaim := { program := "ytonmjcfkanldcaa", sum := "ebff5d5d173ee869e6035f11ed1de510f8c6b4243297ea59c7c164e72c1ac2f0", func := "loop.example/fewrelations/laws.FnExactEquIn", spec := "fnExactEquIn", inPlace := ["internal/bytealg.IndexByteString"], unfollowed := true, recurses := true, apart := false, narrowed := true }
def FnExactEquInUptoSaid : Prop := fnExactEquInUptoRow.holds Try.pinned (OpenSpec.upto fnExactEquInSpec)

/-- 'laws.FnExactEquClasses', WHERE WHAT IT READS IS OF BULK AT MOST 1048576: true; the input reads as it did. -/
def fnExactEquClassesUptoRow : OpenClaim := { program := "ytonmjcfkanldcaa", sum := "ebff5d5d173ee869e6035f11ed1de510f8c6b4243297ea59c7c164e72c1ac2f0", func := "loop.example/fewrelations/laws.FnExactEquClasses", spec := "fnExactEquClasses", inPlace := ["internal/bytealg.IndexByteString"], unfollowed := true, recurses := true, apart := false, narrowed := true }
def FnExactEquClassesUptoSaid : Prop := fnExactEquClassesUptoRow.holds Try.pinned (OpenSpec.upto fnExactEquClassesSpec)

/-- 'laws.FnExactEquMeet', WHERE WHAT IT READS IS OF BULK AT MOST 1048576: true; the input reads as it did. -/
def fnExactEquMeetUptoRow : OpenClaim := { program := "ytonmjcfkanldcaa", sum := "ebff5d5d173ee869e6035f11ed1de510f8c6b4243297ea59c7c164e72c1ac2f0", func := "loop.example/fewrelations/laws.FnExactEquMeet", spec := "fnExactEquMeet", inPlace := ["internal/bytealg.IndexByteString"], unfollowed := true, recurses := true, apart := false, narrowed := true }
def FnExactEquMeetUptoSaid : Prop := fnExactEquMeetUptoRow.holds Try.pinned (OpenSpec.upto fnExactEquMeetSpec)

/-- 'laws.FnExactEquJoin', WHERE WHAT IT READS IS OF BULK AT MOST 1048576: true; the input reads as it did. -/
def fnExactEquJoinUptoRow : OpenClaim := { program := "ytonmjcfkanldcaa", sum := "ebff5d5d173ee869e6035f11ed1de510f8c6b4243297ea59c7c164e72c1ac2f0", func := "loop.example/fewrelations/laws.FnExactEquJoin", spec := "fnExactEquJoin", inPlace := ["internal/bytealg.IndexByteString"], unfollowed := true, recurses := true, apart := false, narrowed := true }
def FnExactEquJoinUptoSaid : Prop := fnExactEquJoinUptoRow.holds Try.pinned (OpenSpec.upto fnExactEquJoinSpec)

/-- 'laws.FnExactEquKernel', WHERE WHAT IT READS IS OF BULK AT MOST 1048576: true; the input reads as it did. -/
def fnExactEquKernelUptoRow : OpenClaim := { program := "ytonmjcfkanldcaa", sum := "ebff5d5d173ee869e6035f11ed1de510f8c6b4243297ea59c7c164e72c1ac2f0", func := "loop.example/fewrelations/laws.FnExactEquKernel", spec := "fnExactEquKernel", unfollowed := true, recurses := true, apart := false, narrowed := true }
def FnExactEquKernelUptoSaid : Prop := fnExactEquKernelUptoRow.holds Try.pinned (OpenSpec.upto fnExactEquKernelSpec)

/-- 'laws.FnExactEquQuotient', WHERE WHAT IT READS IS OF BULK AT MOST 1048576: true; the input reads as it did. -/
def fnExactEquQuotientUptoRow : OpenClaim := { program := "ytonmjcfkanldcaa", sum := "ebff5d5d173ee869e6035f11ed1de510f8c6b4243297ea59c7c164e72c1ac2f0", func := "loop.example/fewrelations/laws.FnExactEquQuotient", spec := "fnExactEquQuotient", inPlace := ["internal/bytealg.IndexByteString"], unfollowed := true, recurses := true, apart := false, narrowed := true }
def FnExactEquQuotientUptoSaid : Prop := fnExactEquQuotientUptoRow.holds Try.pinned (OpenSpec.upto fnExactEquQuotientSpec)

/-- 'laws.FnExactEquCount', WHERE WHAT IT READS IS OF BULK AT MOST 1048576: true; the input reads as it did. -/
def fnExactEquCountUptoRow : OpenClaim := { program := "ytonmjcfkanldcaa", sum := "ebff5d5d173ee869e6035f11ed1de510f8c6b4243297ea59c7c164e72c1ac2f0", func := "loop.example/fewrelations/laws.FnExactEquCount", spec := "fnExactEquCount", recurses := true, apart := false, narrowed := true }
def FnExactEquCountUptoSaid : Prop := fnExactEquCountUptoRow.holds Try.pinned (OpenSpec.upto fnExactEquCountSpec)

/-- 'laws.FnExactEquKept', WHERE WHAT IT READS IS OF BULK AT MOST 1048576: true; the input reads as it did. -/
def fnExactEquKeptUptoRow : OpenClaim := { program := "ytonmjcfkanldcaa", sum := "ebff5d5d173ee869e6035f11ed1de510f8c6b4243297ea59c7c164e72c1ac2f0", func := "loop.example/fewrelations/laws.FnExactEquKept", spec := "fnExactEquKept", inPlace := ["internal/bytealg.IndexByteString"], unfollowed := true, recurses := true, apart := false, narrowed := true }
def FnExactEquKeptUptoSaid : Prop := fnExactEquKeptUptoRow.holds Try.pinned (OpenSpec.upto fnExactEquKeptSpec)

end Rows
end Go.Proofs.Ytonmjcfkanldcaa
