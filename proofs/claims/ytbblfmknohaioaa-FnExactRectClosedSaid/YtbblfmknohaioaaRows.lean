/-
  No cell of these rows narrows 'for every input' (looked for: loops, veiled, ifaces, maps, wideKeys, modest, calm, conditions, laid).
  DERIVED. THE GIVEN ROWS OF THIS SEAT. 8 by the template 'for every input the law returns true; each argument reads behind the call as it read before'; 0 by the template 'total and deterministic' (their statements: YtbblfmknohaioaaTotals.lean).
  GIVEN WITH THE SEED: the statements are not yours to turn. If you find one false, say at which input.
  Laid BY PROGRAM, IN A SANDBOX (cutbox-rows.mjs): the forced cells as the released guide's own fill.sh prints them over the translation b2fde3bfc4ec15f6… (all of the seat's roots in one cut). By AI agents, Wed Nov 11 2026. No macro, syntax, notation, axiom, sorry.
-/
import Derived.Test.YtbblfmknohaioaaChecked
import GoSem.Claim
import GoSem.ClaimJoined
import GoSem.ClaimMapViews
import Derived.JoinedTies
import Derived.KernelRfl
namespace Go.Proofs.Ytbblfmknohaioaa
/- THE CELL 'sum', in the pinned program and in every row, IS THE sha256 OF THE DUMP (.gsa) THAT YtbblfmknohaioaaProg.lean LOADS. Nothing in Lean hashes anything: it is a label: what it is worth is what the hold of that sum in a sandbox is worth. -/
noncomputable def Try.pinned : Pinned := { name := "ytbblfmknohaioaa", sum := "b2fde3bfc4ec15f6ee61be89259ef08c072f66bd4614378aa52dea71311615dd", checked := Try.checked }
namespace Rows
def none {H : Type} : Left H := { results := [], args := [] }

/-- 'laws.FnExactRectPolar': WHATEVER THE INPUT: true; the input reads as it did. -/
def fnExactRectPolarSpec : ChangeSpec := { name := "fnExactRectPolar", fn := fun _ => fun
  | [d1, d2] => { results := [.lit (.bool true)], args := [d1, d2] }
  | _ => none }
def fnExactRectPolarRow : OpenClaim := { program := "ytbblfmknohaioaa", sum := "b2fde3bfc4ec15f6ee61be89259ef08c072f66bd4614378aa52dea71311615dd", func := "loop.example/fewrelations/laws.FnExactRectPolar", spec := "fnExactRectPolar", unfollowed := true, recurses := true, apart := false }
def FnExactRectPolarSaid : Prop := fnExactRectPolarRow.holds Try.pinned (OpenSpec.ofChange fnExactRectPolarSpec)

/-- ITS FALSE NEIGHBOUR: 'it returns false'. Refute it at one input. -/
def fnExactRectPolarWrong : ChangeSpec := { name := "fnExactRectPolar", fn := fun _ => fun
  | [d1, d2] => { results := [.lit (.bool false)], args := [d1, d2] }
  | _ => none }
def FnExactRectPolarWrongFalsely : Prop := fnExactRectPolarRow.holds Try.pinned (OpenSpec.ofChange fnExactRectPolarWrong)

/-- 'laws.FnExactRectClosed': WHATEVER THE INPUT: true; the input reads as it did. -/
def fnExactRectClosedSpec : ChangeSpec := { name := "fnExactRectClosed", fn := fun _ => fun
  | [d1, d2] => { results := [.lit (.bool true)], args := [d1, d2] }
  | _ => none }
def fnExactRectClosedRow : OpenClaim := { program := "ytbblfmknohaioaa", sum := "b2fde3bfc4ec15f6ee61be89259ef08c072f66bd4614378aa52dea71311615dd", func := "loop.example/fewrelations/laws.FnExactRectClosed", spec := "fnExactRectClosed", unfollowed := true, recurses := true, apart := false }
def FnExactRectClosedSaid : Prop := fnExactRectClosedRow.holds Try.pinned (OpenSpec.ofChange fnExactRectClosedSpec)

/-- ITS FALSE NEIGHBOUR: 'it returns false'. Refute it at one input. -/
def fnExactRectClosedWrong : ChangeSpec := { name := "fnExactRectClosed", fn := fun _ => fun
  | [d1, d2] => { results := [.lit (.bool false)], args := [d1, d2] }
  | _ => none }
def FnExactRectClosedWrongFalsely : Prop := fnExactRectClosedRow.holds Try.pinned (OpenSpec.ofChange fnExactRectClosedWrong)

/-- 'laws.FnExactRectAll': WHATEVER THE INPUT: true; the input reads as it did. -/
def fnExactRectAllSpec : ChangeSpec := { name := "fnExactRectAll", fn := fun _ => fun
  | [d] => { results := [.lit (.bool true)], args := [d] }
  | _ => none }
def fnExactRectAllRow : OpenClaim := { program := "ytbblfmknohaioaa", sum := "b2fde3bfc4ec15f6ee61be89259ef08c072f66bd4614378aa52dea71311615dd", func := "loop.example/fewrelations/laws.FnExactRectAll", spec := "fnExactRectAll", unfollowed := true, recurses := true, apart := false }
def FnExactRectAllSaid : Prop := fnExactRectAllRow.holds Try.pinned (OpenSpec.ofChange fnExactRectAllSpec)

/-- ITS FALSE NEIGHBOUR: 'it returns false'. Refute it at one input. -/
def fnExactRectAllWrong : ChangeSpec := { name := "fnExactRectAll", fn := fun _ => fun
  | [d] => { results := [.lit (.bool false)], args := [d] }
  | _ => none }
def FnExactRectAllWrongFalsely : Prop := fnExactRectAllRow.holds Try.pinned (OpenSpec.ofChange fnExactRectAllWrong)

/-- 'laws.FnExactRectStepped': WHATEVER THE INPUT: true; the input reads as it did. -/
def fnExactRectSteppedSpec : ChangeSpec := { name := "fnExactRectStepped", fn := fun _ => fun
  | [d] => { results := [.lit (.bool true)], args := [d] }
  | _ => none }
def fnExactRectSteppedRow : OpenClaim := { program := "ytbblfmknohaioaa", sum := "b2fde3bfc4ec15f6ee61be89259ef08c072f66bd4614378aa52dea71311615dd", func := "loop.example/fewrelations/laws.FnExactRectStepped", spec := "fnExactRectStepped", unfollowed := true, recurses := true, apart := false }
def FnExactRectSteppedSaid : Prop := fnExactRectSteppedRow.holds Try.pinned (OpenSpec.ofChange fnExactRectSteppedSpec)

/-- ITS FALSE NEIGHBOUR: 'it returns false'. Refute it at one input. -/
def fnExactRectSteppedWrong : ChangeSpec := { name := "fnExactRectStepped", fn := fun _ => fun
  | [d] => { results := [.lit (.bool false)], args := [d] }
  | _ => none }
def FnExactRectSteppedWrongFalsely : Prop := fnExactRectSteppedRow.holds Try.pinned (OpenSpec.ofChange fnExactRectSteppedWrong)

/-- 'laws.FnExactRectStep': WHATEVER THE INPUT: true; the input reads as it did. -/
def fnExactRectStepSpec : ChangeSpec := { name := "fnExactRectStep", fn := fun _ => fun
  | [d] => { results := [.lit (.bool true)], args := [d] }
  | _ => none }
def fnExactRectStepRow : OpenClaim := { program := "ytbblfmknohaioaa", sum := "b2fde3bfc4ec15f6ee61be89259ef08c072f66bd4614378aa52dea71311615dd", func := "loop.example/fewrelations/laws.FnExactRectStep", spec := "fnExactRectStep", unfollowed := true, recurses := true, apart := false }
def FnExactRectStepSaid : Prop := fnExactRectStepRow.holds Try.pinned (OpenSpec.ofChange fnExactRectStepSpec)

/-- ITS FALSE NEIGHBOUR: 'it returns false'. Refute it at one input. -/
def fnExactRectStepWrong : ChangeSpec := { name := "fnExactRectStep", fn := fun _ => fun
  | [d] => { results := [.lit (.bool false)], args := [d] }
  | _ => none }
def FnExactRectStepWrongFalsely : Prop := fnExactRectStepRow.holds Try.pinned (OpenSpec.ofChange fnExactRectStepWrong)

/-- 'laws.FnExactRectBlocks': WHATEVER THE INPUT: true; the input reads as it did. -/
def fnExactRectBlocksSpec : ChangeSpec := { name := "fnExactRectBlocks", fn := fun _ => fun
  | [d] => { results := [.lit (.bool true)], args := [d] }
  | _ => none }
def fnExactRectBlocksRow : OpenClaim := { program := "ytbblfmknohaioaa", sum := "b2fde3bfc4ec15f6ee61be89259ef08c072f66bd4614378aa52dea71311615dd", func := "loop.example/fewrelations/laws.FnExactRectBlocks", spec := "fnExactRectBlocks", unfollowed := true, recurses := true, apart := false }
def FnExactRectBlocksSaid : Prop := fnExactRectBlocksRow.holds Try.pinned (OpenSpec.ofChange fnExactRectBlocksSpec)

/-- ITS FALSE NEIGHBOUR: 'it returns false'. Refute it at one input. -/
def fnExactRectBlocksWrong : ChangeSpec := { name := "fnExactRectBlocks", fn := fun _ => fun
  | [d] => { results := [.lit (.bool false)], args := [d] }
  | _ => none }
def FnExactRectBlocksWrongFalsely : Prop := fnExactRectBlocksRow.holds Try.pinned (OpenSpec.ofChange fnExactRectBlocksWrong)

/-- 'laws.FnExactRectOf': WHATEVER THE INPUT: true; the input reads as it did. -/
def fnExactRectOfSpec : ChangeSpec := { name := "fnExactRectOf", fn := fun _ => fun
  | [d1, d2] => { results := [.lit (.bool true)], args := [d1, d2] }
  | _ => none }
def fnExactRectOfRow : OpenClaim := { program := "ytbblfmknohaioaa", sum := "b2fde3bfc4ec15f6ee61be89259ef08c072f66bd4614378aa52dea71311615dd", func := "loop.example/fewrelations/laws.FnExactRectOf", spec := "fnExactRectOf", apart := false }
def FnExactRectOfSaid : Prop := fnExactRectOfRow.holds Try.pinned (OpenSpec.ofChange fnExactRectOfSpec)

/-- ITS FALSE NEIGHBOUR: 'it returns false'. Refute it at one input. -/
def fnExactRectOfWrong : ChangeSpec := { name := "fnExactRectOf", fn := fun _ => fun
  | [d1, d2] => { results := [.lit (.bool false)], args := [d1, d2] }
  | _ => none }
def FnExactRectOfWrongFalsely : Prop := fnExactRectOfRow.holds Try.pinned (OpenSpec.ofChange fnExactRectOfWrong)

/-- 'laws.FnExactRectRank': WHATEVER THE INPUT: true; the input reads as it did. -/
def fnExactRectRankSpec : ChangeSpec := { name := "fnExactRectRank", fn := fun _ => fun
  | [d] => { results := [.lit (.bool true)], args := [d] }
  | _ => none }
def fnExactRectRankRow : OpenClaim := { program := "ytbblfmknohaioaa", sum := "b2fde3bfc4ec15f6ee61be89259ef08c072f66bd4614378aa52dea71311615dd", func := "loop.example/fewrelations/laws.FnExactRectRank", spec := "fnExactRectRank", unfollowed := true, recurses := true, apart := false }
def FnExactRectRankSaid : Prop := fnExactRectRankRow.holds Try.pinned (OpenSpec.ofChange fnExactRectRankSpec)

/-- ITS FALSE NEIGHBOUR: 'it returns false'. Refute it at one input. -/
def fnExactRectRankWrong : ChangeSpec := { name := "fnExactRectRank", fn := fun _ => fun
  | [d] => { results := [.lit (.bool false)], args := [d] }
  | _ => none }
def FnExactRectRankWrongFalsely : Prop := fnExactRectRankRow.holds Try.pinned (OpenSpec.ofChange fnExactRectRankWrong)

/- THE SECOND FORM. 'bulk': how many values and letters a reading holds, each counted each time it is reached (what is shared counts as often as it is met; a slice's spare places count too). A statement '..UptoSaid' is the law's where the arguments, and the package variables that the reading takes, are together of bulk at most 1048576: NARROWER than '..Said'. Prove '..Said' where nothing that the law and all that it calls make is longer than what came in: it says more and counts as full. Else prove '..UptoSaid'. A law counts once. -/
mutual
def uptoBulk {H : Type} : DataW H → Nat
  | .lit (.string bytes) => bytes.length + 1
  | .lit _ => 1
  | .nil => 1
  | .ptr d => uptoBulk d + 1
  | .slice elems spare => uptoBulkAll elems + uptoBulkAll spare + 1
  | .agg parts => uptoBulkAll parts + 1
  | .iface _ d => uptoBulk d + 1
  | .map entries => uptoBulkEntries entries + 1
  | .held _ => 1
def uptoBulkAll {H : Type} : List (DataW H) → Nat
  | [] => 0
  | d :: r => uptoBulk d + uptoBulkAll r
def uptoBulkEntries {H : Type} : List (Lit × DataW H) → Nat
  | [] => 0
  | x :: r => uptoBulkEntry x + uptoBulkEntries r
def uptoBulkEntry {H : Type} : Lit × DataW H → Nat
  | (.string bytes, d) => bytes.length + uptoBulk d + 1
  | (_, d) => uptoBulk d + 1
 end
def uptoSmall : (H : Type) → List (DataW H) → Bool := fun _ ds => decide (uptoBulkAll ds ≤ 1048576)
def OpenSpec.upto (s : _root_.Go.ChangeSpec) : _root_.Go.OpenSpec := { _root_.Go.OpenSpec.ofChange s with cond := some uptoSmall }

/-- 'laws.FnExactRectPolar', WHERE WHAT IT READS IS OF BULK AT MOST 1048576: true; the input reads as it did. -/
def fnExactRectPolarUptoRow : OpenClaim := { program := "ytbblfmknohaioaa", sum := "b2fde3bfc4ec15f6ee61be89259ef08c072f66bd4614378aa52dea71311615dd", func := "loop.example/fewrelations/laws.FnExactRectPolar", spec := "fnExactRectPolar", unfollowed := true, recurses := true, apart := false, narrowed := true }
def FnExactRectPolarUptoSaid : Prop := fnExactRectPolarUptoRow.holds Try.pinned (OpenSpec.upto fnExactRectPolarSpec)

/-- 'laws.FnExactRectClosed', WHERE WHAT IT READS IS OF BULK AT MOST 1048576: true; the input reads as it did. -/
def fnExactRectClosedUptoRow : OpenClaim := { program := "ytbblfmknohaioaa", sum := "b2fde3bfc4ec15f6ee61be89259ef08c072f66bd4614378aa52dea71311615dd", func := "loop.example/fewrelations/laws.FnExactRectClosed", spec := "fnExactRectClosed", unfollowed := true, recurses := true, apart := false, narrowed := true }
def FnExactRectClosedUptoSaid : Prop := fnExactRectClosedUptoRow.holds Try.pinned (OpenSpec.upto fnExactRectClosedSpec)

/-- 'laws.FnExactRectAll', WHERE WHAT IT READS IS OF BULK AT MOST 1048576: true; the input reads as it did. -/
def fnExactRectAllUptoRow : OpenClaim := { program := "ytbblfmknohaioaa", sum := "b2fde3bfc4ec15f6ee61be89259ef08c072f66bd4614378aa52dea71311615dd", func := "loop.example/fewrelations/laws.FnExactRectAll", spec := "fnExactRectAll", unfollowed := true, recurses := true, apart := false, narrowed := true }
def FnExactRectAllUptoSaid : Prop := fnExactRectAllUptoRow.holds Try.pinned (OpenSpec.upto fnExactRectAllSpec)

/-- 'laws.FnExactRectStepped', WHERE WHAT IT READS IS OF BULK AT MOST 1048576: true; the input reads as it did. -/
def fnExactRectSteppedUptoRow : OpenClaim := { program := "ytbblfmknohaioaa", sum := "b2fde3bfc4ec15f6ee61be89259ef08c072f66bd4614378aa52dea71311615dd", func := "loop.example/fewrelations/laws.FnExactRectStepped", spec := "fnExactRectStepped", unfollowed := true, recurses := true, apart := false, narrowed := true }
def FnExactRectSteppedUptoSaid : Prop := fnExactRectSteppedUptoRow.holds Try.pinned (OpenSpec.upto fnExactRectSteppedSpec)

/-- 'laws.FnExactRectStep', WHERE WHAT IT READS IS OF BULK AT MOST 1048576: true; the input reads as it did. -/
def fnExactRectStepUptoRow : OpenClaim := { program := "ytbblfmknohaioaa", sum := "b2fde3bfc4ec15f6ee61be89259ef08c072f66bd4614378aa52dea71311615dd", func := "loop.example/fewrelations/laws.FnExactRectStep", spec := "fnExactRectStep", unfollowed := true, recurses := true, apart := false, narrowed := true }
def FnExactRectStepUptoSaid : Prop := fnExactRectStepUptoRow.holds Try.pinned (OpenSpec.upto fnExactRectStepSpec)

/-- 'laws.FnExactRectBlocks', WHERE WHAT IT READS IS OF BULK AT MOST 1048576: true; the input reads as it did. -/
def fnExactRectBlocksUptoRow : OpenClaim := { program := "ytbblfmknohaioaa", sum := "b2fde3bfc4ec15f6ee61be89259ef08c072f66bd4614378aa52dea71311615dd", func := "loop.example/fewrelations/laws.FnExactRectBlocks", spec := "fnExactRectBlocks", unfollowed := true, recurses := true, apart := false, narrowed := true }
def FnExactRectBlocksUptoSaid : Prop := fnExactRectBlocksUptoRow.holds Try.pinned (OpenSpec.upto fnExactRectBlocksSpec)

/-- 'laws.FnExactRectOf', WHERE WHAT IT READS IS OF BULK AT MOST 1048576: true; the input reads as it did. -/
def fnExactRectOfUptoRow : OpenClaim := { program := "ytbblfmknohaioaa", sum := "b2fde3bfc4ec15f6ee61be89259ef08c072f66bd4614378aa52dea71311615dd", func := "loop.example/fewrelations/laws.FnExactRectOf", spec := "fnExactRectOf", apart := false, narrowed := true }
def FnExactRectOfUptoSaid : Prop := fnExactRectOfUptoRow.holds Try.pinned (OpenSpec.upto fnExactRectOfSpec)

/-- 'laws.FnExactRectRank', WHERE WHAT IT READS IS OF BULK AT MOST 1048576: true; the input reads as it did. -/
def fnExactRectRankUptoRow : OpenClaim := { program := "ytbblfmknohaioaa", sum := "b2fde3bfc4ec15f6ee61be89259ef08c072f66bd4614378aa52dea71311615dd", func := "loop.example/fewrelations/laws.FnExactRectRank", spec := "fnExactRectRank", unfollowed := true, recurses := true, apart := false, narrowed := true }
def FnExactRectRankUptoSaid : Prop := fnExactRectRankUptoRow.holds Try.pinned (OpenSpec.upto fnExactRectRankSpec)

end Rows
end Go.Proofs.Ytbblfmknohaioaa
