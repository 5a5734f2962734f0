/-
  No cell of these rows narrows 'for every input' (looked for: loops, veiled, ifaces, maps, wideKeys, modest, calm, conditions, laid).
  DERIVED. THE GIVEN ROWS OF THIS SEAT. 11 by the template 'for every input the law returns true; each argument reads behind the call as it read before'; 0 by the template 'total and deterministic' (their statements: YtfcpfhffkfbgdaaTotals.lean).
  GIVEN WITH THE SEED: the statements are not yours to turn. If you find one false, say at which input.
  Laid BY PROGRAM, IN A SANDBOX (cutbox-rows.mjs): the forced cells as the released guide's own fill.sh prints them over the translation e3a2ef440bb9d17e… (all of the seat's roots in one cut). By AI agents, Wed Nov 11 2026. No macro, syntax, notation, axiom, sorry.
-/
import Derived.Test.YtfcpfhffkfbgdaaChecked
import GoSem.Claim
import GoSem.ClaimJoined
import GoSem.ClaimMapViews
import Derived.JoinedTies
import Derived.KernelRfl
namespace Go.Proofs.Ytfcpfhffkfbgdaa
/- THE CELL 'sum', in the pinned program and in every row, IS THE sha256 OF THE DUMP (.gsa) THAT YtfcpfhffkfbgdaaProg.lean LOADS. Nothing in Lean hashes anything: it is a label: what it is worth is what the hold of that sum in a sandbox is worth. -/
noncomputable def Try.pinned : Pinned := { name := "ytfcpfhffkfbgdaa", sum := "e3a2ef440bb9d17ea9f84d20713ae9d7ea15df7bac72f8ec552544b134954a1f", checked := Try.checked }
namespace Rows
def none {H : Type} : Left H := { results := [], args := [] }

/-- 'laws.FnExactRegularIn': WHATEVER THE INPUT: true; the input reads as it did. -/
def fnExactRegularInSpec : ChangeSpec := { name := "fnExactRegularIn", fn := fun _ => fun
  | [d] => { results := [.lit (.bool true)], args := [d] }
  | _ => none }
def fnExactRegularInRow : OpenClaim := { program := "ytfcpfhffkfbgdaa", sum := "e3a2ef440bb9d17ea9f84d20713ae9d7ea15df7bac72f8ec552544b134954a1f", func := "loop.example/fewrelations/laws.FnExactRegularIn", spec := "fnExactRegularIn", unfollowed := true, recurses := true, apart := false }
def FnExactRegularInSaid : Prop := fnExactRegularInRow.holds Try.pinned (OpenSpec.ofChange fnExactRegularInSpec)

/-- ITS FALSE NEIGHBOUR: 'it returns false'. Refute it at one input. -/
def fnExactRegularInWrong : ChangeSpec := { name := "fnExactRegularIn", fn := fun _ => fun
  | [d] => { results := [.lit (.bool false)], args := [d] }
  | _ => none }
def FnExactRegularInWrongFalsely : Prop := fnExactRegularInRow.holds Try.pinned (OpenSpec.ofChange fnExactRegularInWrong)

/-- 'laws.FnExactRegularMost': WHATEVER THE INPUT: true; the input reads as it did. -/
def fnExactRegularMostSpec : ChangeSpec := { name := "fnExactRegularMost", fn := fun _ => fun
  | [d] => { results := [.lit (.bool true)], args := [d] }
  | _ => none }
def fnExactRegularMostRow : OpenClaim := { program := "ytfcpfhffkfbgdaa", sum := "e3a2ef440bb9d17ea9f84d20713ae9d7ea15df7bac72f8ec552544b134954a1f", func := "loop.example/fewrelations/laws.FnExactRegularMost", spec := "fnExactRegularMost", unfollowed := true, recurses := true, apart := false }
def FnExactRegularMostSaid : Prop := fnExactRegularMostRow.holds Try.pinned (OpenSpec.ofChange fnExactRegularMostSpec)

/-- ITS FALSE NEIGHBOUR: 'it returns false'. Refute it at one input. -/
def fnExactRegularMostWrong : ChangeSpec := { name := "fnExactRegularMost", fn := fun _ => fun
  | [d] => { results := [.lit (.bool false)], args := [d] }
  | _ => none }
def FnExactRegularMostWrongFalsely : Prop := fnExactRegularMostRow.holds Try.pinned (OpenSpec.ofChange fnExactRegularMostWrong)

/-- 'laws.FnExactRegularBack': WHATEVER THE INPUT: true; the input reads as it did. -/
def fnExactRegularBackSpec : ChangeSpec := { name := "fnExactRegularBack", fn := fun _ => fun
  | [d] => { results := [.lit (.bool true)], args := [d] }
  | _ => none }
def fnExactRegularBackRow : OpenClaim := { program := "ytfcpfhffkfbgdaa", sum := "e3a2ef440bb9d17ea9f84d20713ae9d7ea15df7bac72f8ec552544b134954a1f", func := "loop.example/fewrelations/laws.FnExactRegularBack", spec := "fnExactRegularBack", unfollowed := true, recurses := true, apart := false }
def FnExactRegularBackSaid : Prop := fnExactRegularBackRow.holds Try.pinned (OpenSpec.ofChange fnExactRegularBackSpec)

/-- ITS FALSE NEIGHBOUR: 'it returns false'. Refute it at one input. -/
def fnExactRegularBackWrong : ChangeSpec := { name := "fnExactRegularBack", fn := fun _ => fun
  | [d] => { results := [.lit (.bool false)], args := [d] }
  | _ => none }
def FnExactRegularBackWrongFalsely : Prop := fnExactRegularBackRow.holds Try.pinned (OpenSpec.ofChange fnExactRegularBackWrong)

/-- 'laws.FnExactRegularCount': WHATEVER THE INPUT: true; the input reads as it did. -/
def fnExactRegularCountSpec : ChangeSpec := { name := "fnExactRegularCount", fn := fun _ => fun
  | [d] => { results := [.lit (.bool true)], args := [d] }
  | _ => none }
def fnExactRegularCountRow : OpenClaim := { program := "ytfcpfhffkfbgdaa", sum := "e3a2ef440bb9d17ea9f84d20713ae9d7ea15df7bac72f8ec552544b134954a1f", func := "loop.example/fewrelations/laws.FnExactRegularCount", spec := "fnExactRegularCount", unfollowed := true, recurses := true, apart := false }
def FnExactRegularCountSaid : Prop := fnExactRegularCountRow.holds Try.pinned (OpenSpec.ofChange fnExactRegularCountSpec)

/-- ITS FALSE NEIGHBOUR: 'it returns false'. Refute it at one input. -/
def fnExactRegularCountWrong : ChangeSpec := { name := "fnExactRegularCount", fn := fun _ => fun
  | [d] => { results := [.lit (.bool false)], args := [d] }
  | _ => none }
def FnExactRegularCountWrongFalsely : Prop := fnExactRegularCountRow.holds Try.pinned (OpenSpec.ofChange fnExactRegularCountWrong)

/-- 'laws.FnExactRegularSquare': WHATEVER THE INPUT: true; the input reads as it did. -/
def fnExactRegularSquareSpec : ChangeSpec := { name := "fnExactRegularSquare", fn := fun _ => fun
  | [d] => { results := [.lit (.bool true)], args := [d] }
  | _ => none }
def fnExactRegularSquareRow : OpenClaim := { program := "ytfcpfhffkfbgdaa", sum := "e3a2ef440bb9d17ea9f84d20713ae9d7ea15df7bac72f8ec552544b134954a1f", func := "loop.example/fewrelations/laws.FnExactRegularSquare", spec := "fnExactRegularSquare", unfollowed := true, recurses := true, apart := false }
def FnExactRegularSquareSaid : Prop := fnExactRegularSquareRow.holds Try.pinned (OpenSpec.ofChange fnExactRegularSquareSpec)

/-- ITS FALSE NEIGHBOUR: 'it returns false'. Refute it at one input. -/
def fnExactRegularSquareWrong : ChangeSpec := { name := "fnExactRegularSquare", fn := fun _ => fun
  | [d] => { results := [.lit (.bool false)], args := [d] }
  | _ => none }
def FnExactRegularSquareWrongFalsely : Prop := fnExactRegularSquareRow.holds Try.pinned (OpenSpec.ofChange fnExactRegularSquareWrong)

/-- 'laws.FnExactKindCount': WHATEVER THE INPUT: true; the input reads as it did. -/
def fnExactKindCountSpec : ChangeSpec := { name := "fnExactKindCount", fn := fun _ => fun
  | [d1, d2] => { results := [.lit (.bool true)], args := [d1, d2] }
  | _ => none }
def fnExactKindCountRow : OpenClaim := { program := "ytfcpfhffkfbgdaa", sum := "e3a2ef440bb9d17ea9f84d20713ae9d7ea15df7bac72f8ec552544b134954a1f", func := "loop.example/fewrelations/laws.FnExactKindCount", spec := "fnExactKindCount", inPlace := ["internal/bytealg.IndexByteString"], unfollowed := true, recurses := true, apart := false }
def FnExactKindCountSaid : Prop := fnExactKindCountRow.holds Try.pinned (OpenSpec.ofChange fnExactKindCountSpec)

/-- ITS FALSE NEIGHBOUR: 'it returns false'. Refute it at one input. -/
def fnExactKindCountWrong : ChangeSpec := { name := "fnExactKindCount", fn := fun _ => fun
  | [d1, d2] => { results := [.lit (.bool false)], args := [d1, d2] }
  | _ => none }
def FnExactKindCountWrongFalsely : Prop := fnExactKindCountRow.holds Try.pinned (OpenSpec.ofChange fnExactKindCountWrong)

/-- 'laws.FnKindCount': WHATEVER THE INPUT: true; the input reads as it did. -/
def fnKindCountSpec : ChangeSpec := { name := "fnKindCount", fn := fun _ => fun
  | [d] => { results := [.lit (.bool true)], args := [d] }
  | _ => none }
def fnKindCountRow : OpenClaim := { program := "ytfcpfhffkfbgdaa", sum := "e3a2ef440bb9d17ea9f84d20713ae9d7ea15df7bac72f8ec552544b134954a1f", func := "loop.example/fewrelations/laws.FnKindCount", spec := "fnKindCount", inPlace := ["internal/bytealg.IndexByteString"], unfollowed := true, recurses := true, apart := false }
def FnKindCountSaid : Prop := fnKindCountRow.holds Try.pinned (OpenSpec.ofChange fnKindCountSpec)

/-- ITS FALSE NEIGHBOUR: 'it returns false'. Refute it at one input. -/
def fnKindCountWrong : ChangeSpec := { name := "fnKindCount", fn := fun _ => fun
  | [d] => { results := [.lit (.bool false)], args := [d] }
  | _ => none }
def FnKindCountWrongFalsely : Prop := fnKindCountRow.holds Try.pinned (OpenSpec.ofChange fnKindCountWrong)

/-- 'laws.FnRegularMost': WHATEVER THE INPUT: true; the input reads as it did. -/
def fnRegularMostSpec : ChangeSpec := { name := "fnRegularMost", fn := fun _ => fun
  | [d] => { results := [.lit (.bool true)], args := [d] }
  | _ => none }
def fnRegularMostRow : OpenClaim := { program := "ytfcpfhffkfbgdaa", sum := "e3a2ef440bb9d17ea9f84d20713ae9d7ea15df7bac72f8ec552544b134954a1f", func := "loop.example/fewrelations/laws.FnRegularMost", spec := "fnRegularMost", unfollowed := true, recurses := true, apart := false }
def FnRegularMostSaid : Prop := fnRegularMostRow.holds Try.pinned (OpenSpec.ofChange fnRegularMostSpec)

/-- ITS FALSE NEIGHBOUR: 'it returns false'. Refute it at one input. -/
def fnRegularMostWrong : ChangeSpec := { name := "fnRegularMost", fn := fun _ => fun
  | [d] => { results := [.lit (.bool false)], args := [d] }
  | _ => none }
def FnRegularMostWrongFalsely : Prop := fnRegularMostRow.holds Try.pinned (OpenSpec.ofChange fnRegularMostWrong)

/-- 'laws.FnRegularBack': WHATEVER THE INPUT: true; the input reads as it did. -/
def fnRegularBackSpec : ChangeSpec := { name := "fnRegularBack", fn := fun _ => fun
  | [d] => { results := [.lit (.bool true)], args := [d] }
  | _ => none }
def fnRegularBackRow : OpenClaim := { program := "ytfcpfhffkfbgdaa", sum := "e3a2ef440bb9d17ea9f84d20713ae9d7ea15df7bac72f8ec552544b134954a1f", func := "loop.example/fewrelations/laws.FnRegularBack", spec := "fnRegularBack", unfollowed := true, recurses := true, apart := false }
def FnRegularBackSaid : Prop := fnRegularBackRow.holds Try.pinned (OpenSpec.ofChange fnRegularBackSpec)

/-- ITS FALSE NEIGHBOUR: 'it returns false'. Refute it at one input. -/
def fnRegularBackWrong : ChangeSpec := { name := "fnRegularBack", fn := fun _ => fun
  | [d] => { results := [.lit (.bool false)], args := [d] }
  | _ => none }
def FnRegularBackWrongFalsely : Prop := fnRegularBackRow.holds Try.pinned (OpenSpec.ofChange fnRegularBackWrong)

/-- 'laws.FnRegularCount': WHATEVER THE INPUT: true; the input reads as it did. -/
def fnRegularCountSpec : ChangeSpec := { name := "fnRegularCount", fn := fun _ => fun
  | [d] => { results := [.lit (.bool true)], args := [d] }
  | _ => none }
def fnRegularCountRow : OpenClaim := { program := "ytfcpfhffkfbgdaa", sum := "e3a2ef440bb9d17ea9f84d20713ae9d7ea15df7bac72f8ec552544b134954a1f", func := "loop.example/fewrelations/laws.FnRegularCount", spec := "fnRegularCount", unfollowed := true, recurses := true, apart := false }
def FnRegularCountSaid : Prop := fnRegularCountRow.holds Try.pinned (OpenSpec.ofChange fnRegularCountSpec)

/-- ITS FALSE NEIGHBOUR: 'it returns false'. Refute it at one input. -/
def fnRegularCountWrong : ChangeSpec := { name := "fnRegularCount", fn := fun _ => fun
  | [d] => { results := [.lit (.bool false)], args := [d] }
  | _ => none }
def FnRegularCountWrongFalsely : Prop := fnRegularCountRow.holds Try.pinned (OpenSpec.ofChange fnRegularCountWrong)

/-- 'laws.FnRegularSquare': WHATEVER THE INPUT: true; the input reads as it did. -/
def fnRegularSquareSpec : ChangeSpec := { name := "fnRegularSquare", fn := fun _ => fun
  | [d] => { results := [.lit (.bool true)], args := [d] }
  | _ => none }
def fnRegularSquareRow : OpenClaim := { program := "ytfcpfhffkfbgdaa", sum := "e3a2ef440bb9d17ea9f84d20713ae9d7ea15df7bac72f8ec552544b134954a1f", func := "loop.example/fewrelations/laws.FnRegularSquare", spec := "fnRegularSquare", inPlace := ["internal/bytealg.IndexByteString"], unfollowed := true, recurses := true, apart := false }
def FnRegularSquareSaid : Prop := fnRegularSquareRow.holds Try.pinned (OpenSpec.ofChange fnRegularSquareSpec)

/-- ITS FALSE NEIGHBOUR: 'it returns false'. Refute it at one input. -/
def fnRegularSquareWrong : ChangeSpec := { name := "fnRegularSquare", fn := fun _ => fun
  | [d] => { results := [.lit (.bool false)], args := [d] }
  | _ => none }
def FnRegularSquareWrongFalsely : Prop := fnRegularSquareRow.holds Try.pinned (OpenSpec.ofChange fnRegularSquareWrong)

/- THE SECOND FORM. 'bulk': how many values and letters a reading holds, each counted each time it is reached (what is shared counts as often as it is met; a slice's spare places count too). A statement '..UptoSaid' is the law's where the arguments, and the package variables that the reading takes, are together of bulk at most 1048576: NARROWER than '..Said'. Prove '..Said' where nothing that the law and all that it calls make is longer than what came in: it says more and counts as full. Else prove '..UptoSaid'. A law counts once. -/
mutual
def uptoBulk {H : Type} : DataW H → Nat
  | .lit (.string bytes) => bytes.length + 1
  | .lit _ => 1
  | .nil => 1
  | .ptr d => uptoBulk d + 1
  | .slice elems spare => uptoBulkAll elems + uptoBulkAll spare + 1
  | .agg parts => uptoBulkAll parts + 1
  | .iface _ d => uptoBulk d + 1
  | .map entries => uptoBulkEntries entries + 1
  | .held _ => 1
def uptoBulkAll {H : Type} : List (DataW H) → Nat
  | [] => 0
  | d :: r => uptoBulk d + uptoBulkAll r
def uptoBulkEntries {H : Type} : List (Lit × DataW H) → Nat
  | [] => 0
  | x :: r => uptoBulkEntry x + uptoBulkEntries r
def uptoBulkEntry {H : Type} : Lit × DataW H → Nat
  | (.string bytes, d) => bytes.length + uptoBulk d + 1
  | (_, d) => uptoBulk d + 1
 end
def uptoSmall : (H : Type) → List (DataW H) → Bool := fun _ ds => decide (uptoBulkAll ds ≤ 1048576)
def OpenSpec.upto (s : _root_.Go.ChangeSpec) : _root_.Go.OpenSpec := { _root_.Go.OpenSpec.ofChange s with cond := some uptoSmall }

/-- 'laws.FnExactRegularIn', WHERE WHAT IT READS IS OF BULK AT MOST 1048576: true; the input reads as it did. -/
def fnExactRegularInUptoRow : OpenClaim := { program := "ytfcpfhffkfbgdaa", sum := "e3a2ef440bb9d17ea9f84d20713ae9d7ea15df7bac72f8ec552544b134954a1f", func := "loop.example/fewrelations/laws.FnExactRegularIn", spec := "fnExactRegularIn", unfollowed := true, recurses := true, apart := false, narrowed := true }
def FnExactRegularInUptoSaid : Prop := fnExactRegularInUptoRow.holds Try.pinned (OpenSpec.upto fnExactRegularInSpec)

/-- 'laws.FnExactRegularMost', WHERE WHAT IT READS IS OF BULK AT MOST 1048576: true; the input reads as it did. -/
def fnExactRegularMostUptoRow : OpenClaim := { program := "ytfcpfhffkfbgdaa", sum := "e3a2ef440bb9d17ea9f84d20713ae9d7ea15df7bac72f8ec552544b134954a1f", func := "loop.example/fewrelations/laws.FnExactRegularMost", spec := "fnExactRegularMost", unfollowed := true, recurses := true, apart := false, narrowed := true }
def FnExactRegularMostUptoSaid : Prop := fnExactRegularMostUptoRow.holds Try.pinned (OpenSpec.upto fnExactRegularMostSpec)

/-- 'laws.FnExactRegularBack', WHERE WHAT IT READS IS OF BULK AT MOST 1048576: true; the input reads as it did. -/
def fnExactRegularBackUptoRow : OpenClaim := { program := "ytfcpfhffkfbgdaa", sum := "e3a2ef440bb9d17ea9f84d20713ae9d7ea15df7bac72f8ec552544b134954a1f", func := "loop.example/fewrelations/laws.FnExactRegularBack", spec := "fnExactRegularBack", unfollowed := true, recurses := true, apart := false, narrowed := true }
def FnExactRegularBackUptoSaid : Prop := fnExactRegularBackUptoRow.holds Try.pinned (OpenSpec.upto fnExactRegularBackSpec)

/-- 'laws.FnExactRegularCount', WHERE WHAT IT READS IS OF BULK AT MOST 1048576: true; the input reads as it did. -/
def fnExactRegularCountUptoRow : OpenClaim := { program := "ytfcpfhffkfbgdaa", sum := "e3a2ef440bb9d17ea9f84d20713ae9d7ea15df7bac72f8ec552544b134954a1f", func := "loop.example/fewrelations/laws.FnExactRegularCount", spec := "fnExactRegularCount", unfollowed := true, recurses := true, apart := false, narrowed := true }
def FnExactRegularCountUptoSaid : Prop := fnExactRegularCountUptoRow.holds Try.pinned (OpenSpec.upto fnExactRegularCountSpec)

/-- 'laws.FnExactRegularSquare', WHERE WHAT IT READS IS OF BULK AT MOST 1048576: true; the input reads as it did. -/
def fnExactRegularSquareUptoRow : OpenClaim := { program := "ytfcpfhffkfbgdaa", sum := "e3a2ef440bb9d17ea9f84d20713ae9d7ea15df7bac72f8ec552544b134954a1f", func := "loop.example/fewrelations/laws.FnExactRegularSquare", spec := "fnExactRegularSquare", unfollowed := true, recurses := true, apart := false, narrowed := true }
def FnExactRegularSquareUptoSaid : Prop := fnExactRegularSquareUptoRow.holds Try.pinned (OpenSpec.upto fnExactRegularSquareSpec)

/-- 'laws.FnExactKindCount', WHERE WHAT IT READS IS OF BULK AT MOST 1048576: true; the input reads as it did. -/
def fnExactKindCountUptoRow : OpenClaim := { program := "ytfcpfhffkfbgdaa", sum := "e3a2ef440bb9d17ea9f84d20713ae9d7ea15df7bac72f8ec552544b134954a1f", func := "loop.example/fewrelations/laws.FnExactKindCount", spec := "fnExactKindCount", inPlace := ["internal/bytealg.IndexByteString"], unfollowed := true, recurses := true, apart := false, narrowed := true }
def FnExactKindCountUptoSaid : Prop := fnExactKindCountUptoRow.holds Try.pinned (OpenSpec.upto fnExactKindCountSpec)

/-- 'laws.FnKindCount', WHERE WHAT IT READS IS OF BULK AT MOST 1048576: true; the input reads as it did. -/
def fnKindCountUptoRow : OpenClaim := { program := "ytfcpfhffkfbgdaa", sum := "e3a2ef440bb9d17ea9f84d20713ae9d7ea15df7bac72f8ec552544b134954a1f", func := "loop.example/fewrelations/laws.FnKindCount", spec := "fnKindCount", inPlace := ["internal/bytealg.IndexByteString"], unfollowed := true, recurses := true, apart := false, narrowed := true }
def FnKindCountUptoSaid : Prop := fnKindCountUptoRow.holds Try.pinned (OpenSpec.upto fnKindCountSpec)

/-- 'laws.FnRegularMost', WHERE WHAT IT READS IS OF BULK AT MOST 1048576: true; the input reads as it did. -/
def fnRegularMostUptoRow : OpenClaim := { program := "ytfcpfhffkfbgdaa", sum := "e3a2ef440bb9d17ea9f84d20713ae9d7ea15df7bac72f8ec552544b134954a1f", func := "loop.example/fewrelations/laws.FnRegularMost", spec := "fnRegularMost", unfollowed := true, recurses := true, apart := false, narrowed := true }
def FnRegularMostUptoSaid : Prop := fnRegularMostUptoRow.holds Try.pinned (OpenSpec.upto fnRegularMostSpec)

/-- 'laws.FnRegularBack', WHERE WHAT IT READS IS OF BULK AT MOST 1048576: true; the input reads as it did. -/
def fnRegularBackUptoRow : OpenClaim := { program := "ytfcpfhffkfbgdaa", sum := "e3a2ef440bb9d17ea9f84d20713ae9d7ea15df7bac72f8ec552544b134954a1f", func := "loop.example/fewrelations/laws.FnRegularBack", spec := "fnRegularBack", unfollowed := true, recurses := true, apart := false, narrowed := true }
def FnRegularBackUptoSaid : Prop := fnRegularBackUptoRow.holds Try.pinned (OpenSpec.upto fnRegularBackSpec)

/-- 'laws.FnRegularCount', WHERE WHAT IT READS IS OF BULK AT MOST 1048576: true; the input reads as it did. -/
def fnRegularCountUptoRow : OpenClaim := { program := "ytfcpfhffkfbgdaa", sum := "e3a2ef440bb9d17ea9f84d20713ae9d7ea15df7bac72f8ec552544b134954a1f", func := "loop.example/fewrelations/laws.FnRegularCount", spec := "fnRegularCount", unfollowed := true, recurses := true, apart := false, narrowed := true }
def FnRegularCountUptoSaid : Prop := fnRegularCountUptoRow.holds Try.pinned (OpenSpec.upto fnRegularCountSpec)

/-- 'laws.FnRegularSquare', WHERE WHAT IT READS IS OF BULK AT MOST 1048576: true; the input reads as it did. -/
def fnRegularSquareUptoRow : OpenClaim := { program := "ytfcpfhffkfbgdaa", sum := "e3a2ef440bb9d17ea9f84d20713ae9d7ea15df7bac72f8ec552544b134954a1f", func := "loop.example/fewrelations/laws.FnRegularSquare", spec := "fnRegularSquare", inPlace := ["internal/bytealg.IndexByteString"], unfollowed := true, recurses := true, apart := false, narrowed := true }
def FnRegularSquareUptoSaid : Prop := fnRegularSquareUptoRow.holds Try.pinned (OpenSpec.upto fnRegularSquareSpec)

end Rows
end Go.Proofs.Ytfcpfhffkfbgdaa
