/-
  No cell of these rows narrows 'for every input' (looked for: loops, veiled, ifaces, maps, wideKeys, modest, calm, conditions, laid).
  DERIVED. THE GIVEN ROWS OF THIS SEAT. 8 by the template 'for every input the law returns true; each argument reads behind the call as it read before'; 0 by the template 'total and deterministic' (their statements: YtnmgoeklcmoalaaTotals.lean).
  GIVEN WITH THE SEED: the statements are not yours to turn. If you find one false, say at which input.
  Laid BY PROGRAM, IN A SANDBOX (cutbox-rows.mjs): the forced cells as the released guide's own fill.sh prints them over the translation 4f0eae5798af406a… (all of the seat's roots in one cut). By AI agents, Wed Nov 11 2026. No macro, syntax, notation, axiom, sorry.
-/
import Derived.Test.YtnmgoeklcmoalaaChecked
import GoSem.Claim
import GoSem.ClaimJoined
import GoSem.ClaimMapViews
import Derived.JoinedTies
import Derived.KernelRfl
namespace Go.Proofs.Ytnmgoeklcmoalaa
/- THE CELL 'sum', in the pinned program and in every row, IS THE sha256 OF THE DUMP (.gsa) THAT YtnmgoeklcmoalaaProg.lean LOADS. Nothing in Lean hashes anything: it is a label: what it is worth is what the hold of that sum in a sandbox is worth. -/
noncomputable def Try.pinned : Pinned := { name := "ytnmgoeklcmoalaa", sum := "4f0eae5798af406ae6dee12aae7cef7b14406e7031d39a6fa34d926aac5b66bc", checked := Try.checked }
namespace Rows
def none {H : Type} : Left H := { results := [], args := [] }

/-- 'laws.FnFullTurned': WHATEVER THE INPUT: true; the input reads as it did. -/
def fnFullTurnedSpec : ChangeSpec := { name := "fnFullTurned", fn := fun _ => fun
  | [d] => { results := [.lit (.bool true)], args := [d] }
  | _ => none }
def fnFullTurnedRow : OpenClaim := { program := "ytnmgoeklcmoalaa", sum := "4f0eae5798af406ae6dee12aae7cef7b14406e7031d39a6fa34d926aac5b66bc", func := "loop.example/fewrelations/laws.FnFullTurned", spec := "fnFullTurned", unfollowed := true, recurses := true, apart := false }
def FnFullTurnedSaid : Prop := fnFullTurnedRow.holds Try.pinned (OpenSpec.ofChange fnFullTurnedSpec)

/-- ITS FALSE NEIGHBOUR: 'it returns false'. Refute it at one input. -/
def fnFullTurnedWrong : ChangeSpec := { name := "fnFullTurned", fn := fun _ => fun
  | [d] => { results := [.lit (.bool false)], args := [d] }
  | _ => none }
def FnFullTurnedWrongFalsely : Prop := fnFullTurnedRow.holds Try.pinned (OpenSpec.ofChange fnFullTurnedWrong)

/-- 'laws.FnStepped': WHATEVER THE INPUT: true; the input reads as it did. -/
def fnSteppedSpec : ChangeSpec := { name := "fnStepped", fn := fun _ => fun
  | [d] => { results := [.lit (.bool true)], args := [d] }
  | _ => none }
def fnSteppedRow : OpenClaim := { program := "ytnmgoeklcmoalaa", sum := "4f0eae5798af406ae6dee12aae7cef7b14406e7031d39a6fa34d926aac5b66bc", func := "loop.example/fewrelations/laws.FnStepped", spec := "fnStepped", unfollowed := true, recurses := true, apart := false }
def FnSteppedSaid : Prop := fnSteppedRow.holds Try.pinned (OpenSpec.ofChange fnSteppedSpec)

/-- ITS FALSE NEIGHBOUR: 'it returns false'. Refute it at one input. -/
def fnSteppedWrong : ChangeSpec := { name := "fnStepped", fn := fun _ => fun
  | [d] => { results := [.lit (.bool false)], args := [d] }
  | _ => none }
def FnSteppedWrongFalsely : Prop := fnSteppedRow.holds Try.pinned (OpenSpec.ofChange fnSteppedWrong)

/-- 'laws.FnBound': WHATEVER THE INPUT: true; the input reads as it did. -/
def fnBoundSpec : ChangeSpec := { name := "fnBound", fn := fun _ => fun
  | [d] => { results := [.lit (.bool true)], args := [d] }
  | _ => none }
def fnBoundRow : OpenClaim := { program := "ytnmgoeklcmoalaa", sum := "4f0eae5798af406ae6dee12aae7cef7b14406e7031d39a6fa34d926aac5b66bc", func := "loop.example/fewrelations/laws.FnBound", spec := "fnBound", inPlace := ["internal/bytealg.IndexByteString"], unfollowed := true, recurses := true, apart := false }
def FnBoundSaid : Prop := fnBoundRow.holds Try.pinned (OpenSpec.ofChange fnBoundSpec)

/-- ITS FALSE NEIGHBOUR: 'it returns false'. Refute it at one input. -/
def fnBoundWrong : ChangeSpec := { name := "fnBound", fn := fun _ => fun
  | [d] => { results := [.lit (.bool false)], args := [d] }
  | _ => none }
def FnBoundWrongFalsely : Prop := fnBoundRow.holds Try.pinned (OpenSpec.ofChange fnBoundWrong)

/-- 'laws.FnPairs': WHATEVER THE INPUT: true; the input reads as it did. -/
def fnPairsSpec : ChangeSpec := { name := "fnPairs", fn := fun _ => fun
  | [d] => { results := [.lit (.bool true)], args := [d] }
  | _ => none }
def fnPairsRow : OpenClaim := { program := "ytnmgoeklcmoalaa", sum := "4f0eae5798af406ae6dee12aae7cef7b14406e7031d39a6fa34d926aac5b66bc", func := "loop.example/fewrelations/laws.FnPairs", spec := "fnPairs", unfollowed := true, recurses := true, apart := false }
def FnPairsSaid : Prop := fnPairsRow.holds Try.pinned (OpenSpec.ofChange fnPairsSpec)

/-- ITS FALSE NEIGHBOUR: 'it returns false'. Refute it at one input. -/
def fnPairsWrong : ChangeSpec := { name := "fnPairs", fn := fun _ => fun
  | [d] => { results := [.lit (.bool false)], args := [d] }
  | _ => none }
def FnPairsWrongFalsely : Prop := fnPairsRow.holds Try.pinned (OpenSpec.ofChange fnPairsWrong)

/-- 'laws.FnRel': WHATEVER THE INPUT: true; the input reads as it did. -/
def fnRelSpec : ChangeSpec := { name := "fnRel", fn := fun _ => fun
  | [d] => { results := [.lit (.bool true)], args := [d] }
  | _ => none }
def fnRelRow : OpenClaim := { program := "ytnmgoeklcmoalaa", sum := "4f0eae5798af406ae6dee12aae7cef7b14406e7031d39a6fa34d926aac5b66bc", func := "loop.example/fewrelations/laws.FnRel", spec := "fnRel", unfollowed := true, recurses := true, apart := false }
def FnRelSaid : Prop := fnRelRow.holds Try.pinned (OpenSpec.ofChange fnRelSpec)

/-- ITS FALSE NEIGHBOUR: 'it returns false'. Refute it at one input. -/
def fnRelWrong : ChangeSpec := { name := "fnRel", fn := fun _ => fun
  | [d] => { results := [.lit (.bool false)], args := [d] }
  | _ => none }
def FnRelWrongFalsely : Prop := fnRelRow.holds Try.pinned (OpenSpec.ofChange fnRelWrong)

/-- 'laws.FnKindMost': WHATEVER THE INPUT: true; the input reads as it did. -/
def fnKindMostSpec : ChangeSpec := { name := "fnKindMost", fn := fun _ => fun
  | [d] => { results := [.lit (.bool true)], args := [d] }
  | _ => none }
def fnKindMostRow : OpenClaim := { program := "ytnmgoeklcmoalaa", sum := "4f0eae5798af406ae6dee12aae7cef7b14406e7031d39a6fa34d926aac5b66bc", func := "loop.example/fewrelations/laws.FnKindMost", spec := "fnKindMost", inPlace := ["internal/bytealg.IndexByteString"], unfollowed := true, recurses := true, apart := false }
def FnKindMostSaid : Prop := fnKindMostRow.holds Try.pinned (OpenSpec.ofChange fnKindMostSpec)

/-- ITS FALSE NEIGHBOUR: 'it returns false'. Refute it at one input. -/
def fnKindMostWrong : ChangeSpec := { name := "fnKindMost", fn := fun _ => fun
  | [d] => { results := [.lit (.bool false)], args := [d] }
  | _ => none }
def FnKindMostWrongFalsely : Prop := fnKindMostRow.holds Try.pinned (OpenSpec.ofChange fnKindMostWrong)

/-- 'laws.FnKindLeast': WHATEVER THE INPUT: true; the input reads as it did. -/
def fnKindLeastSpec : ChangeSpec := { name := "fnKindLeast", fn := fun _ => fun
  | [d] => { results := [.lit (.bool true)], args := [d] }
  | _ => none }
def fnKindLeastRow : OpenClaim := { program := "ytnmgoeklcmoalaa", sum := "4f0eae5798af406ae6dee12aae7cef7b14406e7031d39a6fa34d926aac5b66bc", func := "loop.example/fewrelations/laws.FnKindLeast", spec := "fnKindLeast", inPlace := ["internal/bytealg.IndexByteString"], unfollowed := true, recurses := true, apart := false }
def FnKindLeastSaid : Prop := fnKindLeastRow.holds Try.pinned (OpenSpec.ofChange fnKindLeastSpec)

/-- ITS FALSE NEIGHBOUR: 'it returns false'. Refute it at one input. -/
def fnKindLeastWrong : ChangeSpec := { name := "fnKindLeast", fn := fun _ => fun
  | [d] => { results := [.lit (.bool false)], args := [d] }
  | _ => none }
def FnKindLeastWrongFalsely : Prop := fnKindLeastRow.holds Try.pinned (OpenSpec.ofChange fnKindLeastWrong)

/-- 'laws.FnKind': WHATEVER THE INPUT: true; the input reads as it did. -/
def fnKindSpec : ChangeSpec := { name := "fnKind", fn := fun _ => fun
  | [d] => { results := [.lit (.bool true)], args := [d] }
  | _ => none }
def fnKindRow : OpenClaim := { program := "ytnmgoeklcmoalaa", sum := "4f0eae5798af406ae6dee12aae7cef7b14406e7031d39a6fa34d926aac5b66bc", func := "loop.example/fewrelations/laws.FnKind", spec := "fnKind", inPlace := ["internal/bytealg.IndexByteString"], unfollowed := true, recurses := true, apart := false }
def FnKindSaid : Prop := fnKindRow.holds Try.pinned (OpenSpec.ofChange fnKindSpec)

/-- ITS FALSE NEIGHBOUR: 'it returns false'. Refute it at one input. -/
def fnKindWrong : ChangeSpec := { name := "fnKind", fn := fun _ => fun
  | [d] => { results := [.lit (.bool false)], args := [d] }
  | _ => none }
def FnKindWrongFalsely : Prop := fnKindRow.holds Try.pinned (OpenSpec.ofChange fnKindWrong)

/- THE SECOND FORM. 'bulk': how many values and letters a reading holds, each counted each time it is reached (what is shared counts as often as it is met; a slice's spare places count too). A statement '..UptoSaid' is the law's where the arguments, and the package variables that the reading takes, are together of bulk at most 1048576: NARROWER than '..Said'. Prove '..Said' where nothing that the law and all that it calls make is longer than what came in: it says more and counts as full. Else prove '..UptoSaid'. A law counts once. -/
mutual
def uptoBulk {H : Type} : DataW H → Nat
  | .lit (.string bytes) => bytes.length + 1
  | .lit _ => 1
  | .nil => 1
  | .ptr d => uptoBulk d + 1
  | .slice elems spare => uptoBulkAll elems + uptoBulkAll spare + 1
  | .agg parts => uptoBulkAll parts + 1
  | .iface _ d => uptoBulk d + 1
  | .map entries => uptoBulkEntries entries + 1
  | .held _ => 1
def uptoBulkAll {H : Type} : List (DataW H) → Nat
  | [] => 0
  | d :: r => uptoBulk d + uptoBulkAll r
def uptoBulkEntries {H : Type} : List (Lit × DataW H) → Nat
  | [] => 0
  | x :: r => uptoBulkEntry x + uptoBulkEntries r
def uptoBulkEntry {H : Type} : Lit × DataW H → Nat
  | (.string bytes, d) => bytes.length + uptoBulk d + 1
  | (_, d) => uptoBulk d + 1
 end
def uptoSmall : (H : Type) → List (DataW H) → Bool := fun _ ds => decide (uptoBulkAll ds ≤ 1048576)
def OpenSpec.upto (s : _root_.Go.ChangeSpec) : _root_.Go.OpenSpec := { _root_.Go.OpenSpec.ofChange s with cond := some uptoSmall }

/-- 'laws.FnFullTurned', WHERE WHAT IT READS IS OF BULK AT MOST 1048576: true; the input reads as it did. -/
def fnFullTurnedUptoRow : OpenClaim := { program := "ytnmgoeklcmoalaa", sum := "4f0eae5798af406ae6dee12aae7cef7b14406e7031d39a6fa34d926aac5b66bc", func := "loop.example/fewrelations/laws.FnFullTurned", spec := "fnFullTurned", unfollowed := true, recurses := true, apart := false, narrowed := true }
def FnFullTurnedUptoSaid : Prop := fnFullTurnedUptoRow.holds Try.pinned (OpenSpec.upto fnFullTurnedSpec)

/-- 'laws.FnStepped', WHERE WHAT IT READS IS OF BULK AT MOST 1048576: true; the input reads as it did. -/
def fnSteppedUptoRow : OpenClaim := { program := "ytnmgoeklcmoalaa", sum := "4f0eae5798af406ae6dee12aae7cef7b14406e7031d39a6fa34d926aac5b66bc", func := "loop.example/fewrelations/laws.FnStepped", spec := "fnStepped", unfollowed := true, recurses := true, apart := false, narrowed := true }
def FnSteppedUptoSaid : Prop := fnSteppedUptoRow.holds Try.pinned (OpenSpec.upto fnSteppedSpec)

/-- 'laws.FnBound', WHERE WHAT IT READS IS OF BULK AT MOST 1048576: true; the input reads as it did. -/
def fnBoundUptoRow : OpenClaim := { program := "ytnmgoeklcmoalaa", sum := "4f0eae5798af406ae6dee12aae7cef7b14406e7031d39a6fa34d926aac5b66bc", func := "loop.example/fewrelations/laws.FnBound", spec := "fnBound", inPlace := ["internal/bytealg.IndexByteString"], unfollowed := true, recurses := true, apart := false, narrowed := true }
def FnBoundUptoSaid : Prop := fnBoundUptoRow.holds Try.pinned (OpenSpec.upto fnBoundSpec)

/-- 'laws.FnPairs', WHERE WHAT IT READS IS OF BULK AT MOST 1048576: true; the input reads as it did. -/
def fnPairsUptoRow : OpenClaim := { program := "ytnmgoeklcmoalaa", sum := "4f0eae5798af406ae6dee12aae7cef7b14406e7031d39a6fa34d926aac5b66bc", func := "loop.example/fewrelations/laws.FnPairs", spec := "fnPairs", unfollowed := true, recurses := true, apart := false, narrowed := true }
def FnPairsUptoSaid : Prop := fnPairsUptoRow.holds Try.pinned (OpenSpec.upto fnPairsSpec)

/-- 'laws.FnRel', WHERE WHAT IT READS IS OF BULK AT MOST 1048576: true; the input reads as it did. -/
def fnRelUptoRow : OpenClaim := { program := "ytnmgoeklcmoalaa", sum := "4f0eae5798af406ae6dee12aae7cef7b14406e7031d39a6fa34d926aac5b66bc", func := "loop.example/fewrelations/laws.FnRel", spec := "fnRel", unfollowed := true, recurses := true, apart := false, narrowed := true }
def FnRelUptoSaid : Prop := fnRelUptoRow.holds Try.pinned (OpenSpec.upto fnRelSpec)

/-- 'laws.FnKindMost', WHERE WHAT IT READS IS OF BULK AT MOST 1048576: true; the input reads as it did. -/
def fnKindMostUptoRow : OpenClaim := { program := "ytnmgoeklcmoalaa", sum := "4f0eae5798af406ae6dee12aae7cef7b14406e7031d39a6fa34d926aac5b66bc", func := "loop.example/fewrelations/laws.FnKindMost", spec := "fnKindMost", inPlace := ["internal/bytealg.IndexByteString"], unfollowed := true, recurses := true, apart := false, narrowed := true }
def FnKindMostUptoSaid : Prop := fnKindMostUptoRow.holds Try.pinned (OpenSpec.upto fnKindMostSpec)

/-- 'laws.FnKindLeast', WHERE WHAT IT READS IS OF BULK AT MOST 1048576: true; the input reads as it did. -/
def fnKindLeastUptoRow : OpenClaim := { program := "ytnmgoeklcmoalaa", sum := "4f0eae5798af406ae6dee12aae7cef7b14406e7031d39a6fa34d926aac5b66bc", func := "loop.example/fewrelations/laws.FnKindLeast", spec := "fnKindLeast", inPlace := ["internal/bytealg.IndexByteString"], unfollowed := true, recurses := true, apart := false, narrowed := true }
def FnKindLeastUptoSaid : Prop := fnKindLeastUptoRow.holds Try.pinned (OpenSpec.upto fnKindLeastSpec)

/-- 'laws.FnKind', WHERE WHAT IT READS IS OF BULK AT MOST 1048576: true; the input reads as it did. -/
def fnKindUptoRow : OpenClaim := { program := "ytnmgoeklcmoalaa", sum := "4f0eae5798af406ae6dee12aae7cef7b14406e7031d39a6fa34d926aac5b66bc", func := "loop.example/fewrelations/laws.FnKind", spec := "fnKind", inPlace := ["internal/bytealg.IndexByteString"], unfollowed := true, recurses := true, apart := false, narrowed := true }
def FnKindUptoSaid : Prop := fnKindUptoRow.holds Try.pinned (OpenSpec.upto fnKindSpec)

end Rows
end Go.Proofs.Ytnmgoeklcmoalaa
