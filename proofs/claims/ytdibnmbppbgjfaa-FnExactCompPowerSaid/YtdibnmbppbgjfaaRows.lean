/-
  No cell of these rows narrows 'for every input' (looked for: loops, veiled, ifaces, maps, wideKeys, modest, calm, conditions, laid).
  DERIVED. THE GIVEN ROWS OF THIS SEAT. 9 by the template 'for every input the law returns true; each argument reads behind the call as it read before'; 0 by the template 'total and deterministic' (their statements: YtdibnmbppbgjfaaTotals.lean).
  GIVEN WITH THE SEED: the statements are not yours to turn. If you find one false, say at which input.
  Laid BY PROGRAM, IN A SANDBOX (cutbox-rows.mjs): the forced cells as the released guide's own fill.sh prints them over the translation 307efdf1b14a8daf… (all of the seat's roots in one cut). By AI agents, Wed Nov 11 2026. No macro, syntax, notation, axiom, sorry.
-/
import Derived.Test.YtdibnmbppbgjfaaChecked
import GoSem.Claim
import GoSem.ClaimJoined
import GoSem.ClaimMapViews
import Derived.JoinedTies
import Derived.KernelRfl
namespace Go.Proofs.Ytdibnmbppbgjfaa
/- THE CELL 'sum', in the pinned program and in every row, IS THE sha256 OF THE DUMP (.gsa) THAT YtdibnmbppbgjfaaProg.lean LOADS. Nothing in Lean hashes anything: it is a label: what it is worth is what the hold of that sum in a sandbox is worth. -/
noncomputable def Try.pinned : Pinned := { name := "ytdibnmbppbgjfaa", sum := "307efdf1b14a8daf8b1e50e747b3e68f95ceabbaa7c39a4dfbc859d1e416a7af", checked := Try.checked }
namespace Rows
def none {H : Type} : Left H := { results := [], args := [] }

/-- 'laws.FnExactCompOf': WHATEVER THE INPUT: true; the input reads as it did. -/
def fnExactCompOfSpec : ChangeSpec := { name := "fnExactCompOf", fn := fun _ => fun
  | [d1, d2] => { results := [.lit (.bool true)], args := [d1, d2] }
  | _ => none }
def fnExactCompOfRow : OpenClaim := { program := "ytdibnmbppbgjfaa", sum := "307efdf1b14a8daf8b1e50e747b3e68f95ceabbaa7c39a4dfbc859d1e416a7af", func := "loop.example/fewrelations/laws.FnExactCompOf", spec := "fnExactCompOf", unfollowed := true, recurses := true, apart := false }
def FnExactCompOfSaid : Prop := fnExactCompOfRow.holds Try.pinned (OpenSpec.ofChange fnExactCompOfSpec)

/-- ITS FALSE NEIGHBOUR: 'it returns false'. Refute it at one input. -/
def fnExactCompOfWrong : ChangeSpec := { name := "fnExactCompOf", fn := fun _ => fun
  | [d1, d2] => { results := [.lit (.bool false)], args := [d1, d2] }
  | _ => none }
def FnExactCompOfWrongFalsely : Prop := fnExactCompOfRow.holds Try.pinned (OpenSpec.ofChange fnExactCompOfWrong)

/-- 'laws.FnExactCompPower': WHATEVER THE INPUT: true; the input reads as it did. -/
def fnExactCompPowerSpec : ChangeSpec := { name := "fnExactCompPower", fn := fun _ => fun
  | [d1, d2] => { results := [.lit (.bool true)], args := [d1, d2] }
  | _ => none }
def fnExactCompPowerRow : OpenClaim := { program := "ytdibnmbppbgjfaa", sum := "307efdf1b14a8daf8b1e50e747b3e68f95ceabbaa7c39a4dfbc859d1e416a7af", func := "loop.example/fewrelations/laws.FnExactCompPower", spec := "fnExactCompPower", unfollowed := true, recurses := true, apart := false }
def FnExactCompPowerSaid : Prop := fnExactCompPowerRow.holds Try.pinned (OpenSpec.ofChange fnExactCompPowerSpec)

/-- ITS FALSE NEIGHBOUR: 'it returns false'. Refute it at one input. -/
def fnExactCompPowerWrong : ChangeSpec := { name := "fnExactCompPower", fn := fun _ => fun
  | [d1, d2] => { results := [.lit (.bool false)], args := [d1, d2] }
  | _ => none }
def FnExactCompPowerWrongFalsely : Prop := fnExactCompPowerRow.holds Try.pinned (OpenSpec.ofChange fnExactCompPowerWrong)

/-- 'laws.FnExactCompLeft': WHATEVER THE INPUT: true; the input reads as it did. -/
def fnExactCompLeftSpec : ChangeSpec := { name := "fnExactCompLeft", fn := fun _ => fun
  | [d1, d2] => { results := [.lit (.bool true)], args := [d1, d2] }
  | _ => none }
def fnExactCompLeftRow : OpenClaim := { program := "ytdibnmbppbgjfaa", sum := "307efdf1b14a8daf8b1e50e747b3e68f95ceabbaa7c39a4dfbc859d1e416a7af", func := "loop.example/fewrelations/laws.FnExactCompLeft", spec := "fnExactCompLeft", unfollowed := true, recurses := true, apart := false }
def FnExactCompLeftSaid : Prop := fnExactCompLeftRow.holds Try.pinned (OpenSpec.ofChange fnExactCompLeftSpec)

/-- ITS FALSE NEIGHBOUR: 'it returns false'. Refute it at one input. -/
def fnExactCompLeftWrong : ChangeSpec := { name := "fnExactCompLeft", fn := fun _ => fun
  | [d1, d2] => { results := [.lit (.bool false)], args := [d1, d2] }
  | _ => none }
def FnExactCompLeftWrongFalsely : Prop := fnExactCompLeftRow.holds Try.pinned (OpenSpec.ofChange fnExactCompLeftWrong)

/-- 'laws.FnExactCompRight': WHATEVER THE INPUT: true; the input reads as it did. -/
def fnExactCompRightSpec : ChangeSpec := { name := "fnExactCompRight", fn := fun _ => fun
  | [d1, d2] => { results := [.lit (.bool true)], args := [d1, d2] }
  | _ => none }
def fnExactCompRightRow : OpenClaim := { program := "ytdibnmbppbgjfaa", sum := "307efdf1b14a8daf8b1e50e747b3e68f95ceabbaa7c39a4dfbc859d1e416a7af", func := "loop.example/fewrelations/laws.FnExactCompRight", spec := "fnExactCompRight", unfollowed := true, recurses := true, apart := false }
def FnExactCompRightSaid : Prop := fnExactCompRightRow.holds Try.pinned (OpenSpec.ofChange fnExactCompRightSpec)

/-- ITS FALSE NEIGHBOUR: 'it returns false'. Refute it at one input. -/
def fnExactCompRightWrong : ChangeSpec := { name := "fnExactCompRight", fn := fun _ => fun
  | [d1, d2] => { results := [.lit (.bool false)], args := [d1, d2] }
  | _ => none }
def FnExactCompRightWrongFalsely : Prop := fnExactCompRightRow.holds Try.pinned (OpenSpec.ofChange fnExactCompRightWrong)

/-- 'laws.FnExactCompSolve': WHATEVER THE INPUT: true; the input reads as it did. -/
def fnExactCompSolveSpec : ChangeSpec := { name := "fnExactCompSolve", fn := fun _ => fun
  | [d1, d2] => { results := [.lit (.bool true)], args := [d1, d2] }
  | _ => none }
def fnExactCompSolveRow : OpenClaim := { program := "ytdibnmbppbgjfaa", sum := "307efdf1b14a8daf8b1e50e747b3e68f95ceabbaa7c39a4dfbc859d1e416a7af", func := "loop.example/fewrelations/laws.FnExactCompSolve", spec := "fnExactCompSolve", unfollowed := true, recurses := true, apart := false }
def FnExactCompSolveSaid : Prop := fnExactCompSolveRow.holds Try.pinned (OpenSpec.ofChange fnExactCompSolveSpec)

/-- ITS FALSE NEIGHBOUR: 'it returns false'. Refute it at one input. -/
def fnExactCompSolveWrong : ChangeSpec := { name := "fnExactCompSolve", fn := fun _ => fun
  | [d1, d2] => { results := [.lit (.bool false)], args := [d1, d2] }
  | _ => none }
def FnExactCompSolveWrongFalsely : Prop := fnExactCompSolveRow.holds Try.pinned (OpenSpec.ofChange fnExactCompSolveWrong)

/-- 'laws.FnExactCompReach': WHATEVER THE INPUT: true; the input reads as it did. -/
def fnExactCompReachSpec : ChangeSpec := { name := "fnExactCompReach", fn := fun _ => fun
  | [d] => { results := [.lit (.bool true)], args := [d] }
  | _ => none }
def fnExactCompReachRow : OpenClaim := { program := "ytdibnmbppbgjfaa", sum := "307efdf1b14a8daf8b1e50e747b3e68f95ceabbaa7c39a4dfbc859d1e416a7af", func := "loop.example/fewrelations/laws.FnExactCompReach", spec := "fnExactCompReach", unfollowed := true, recurses := true, apart := false }
def FnExactCompReachSaid : Prop := fnExactCompReachRow.holds Try.pinned (OpenSpec.ofChange fnExactCompReachSpec)

/-- ITS FALSE NEIGHBOUR: 'it returns false'. Refute it at one input. -/
def fnExactCompReachWrong : ChangeSpec := { name := "fnExactCompReach", fn := fun _ => fun
  | [d] => { results := [.lit (.bool false)], args := [d] }
  | _ => none }
def FnExactCompReachWrongFalsely : Prop := fnExactCompReachRow.holds Try.pinned (OpenSpec.ofChange fnExactCompReachWrong)

/-- 'laws.FnExactCompStar': WHATEVER THE INPUT: true; the input reads as it did. -/
def fnExactCompStarSpec : ChangeSpec := { name := "fnExactCompStar", fn := fun _ => fun
  | [d] => { results := [.lit (.bool true)], args := [d] }
  | _ => none }
def fnExactCompStarRow : OpenClaim := { program := "ytdibnmbppbgjfaa", sum := "307efdf1b14a8daf8b1e50e747b3e68f95ceabbaa7c39a4dfbc859d1e416a7af", func := "loop.example/fewrelations/laws.FnExactCompStar", spec := "fnExactCompStar", unfollowed := true, recurses := true, apart := false }
def FnExactCompStarSaid : Prop := fnExactCompStarRow.holds Try.pinned (OpenSpec.ofChange fnExactCompStarSpec)

/-- ITS FALSE NEIGHBOUR: 'it returns false'. Refute it at one input. -/
def fnExactCompStarWrong : ChangeSpec := { name := "fnExactCompStar", fn := fun _ => fun
  | [d] => { results := [.lit (.bool false)], args := [d] }
  | _ => none }
def FnExactCompStarWrongFalsely : Prop := fnExactCompStarRow.holds Try.pinned (OpenSpec.ofChange fnExactCompStarWrong)

/-- 'laws.FnExactCompFar': WHATEVER THE INPUT: true; the input reads as it did. -/
def fnExactCompFarSpec : ChangeSpec := { name := "fnExactCompFar", fn := fun _ => fun
  | [d1, d2, d3] => { results := [.lit (.bool true)], args := [d1, d2, d3] }
  | _ => none }
def fnExactCompFarRow : OpenClaim := { program := "ytdibnmbppbgjfaa", sum := "307efdf1b14a8daf8b1e50e747b3e68f95ceabbaa7c39a4dfbc859d1e416a7af", func := "loop.example/fewrelations/laws.FnExactCompFar", spec := "fnExactCompFar", unfollowed := true, recurses := true, apart := false }
def FnExactCompFarSaid : Prop := fnExactCompFarRow.holds Try.pinned (OpenSpec.ofChange fnExactCompFarSpec)

/-- ITS FALSE NEIGHBOUR: 'it returns false'. Refute it at one input. -/
def fnExactCompFarWrong : ChangeSpec := { name := "fnExactCompFar", fn := fun _ => fun
  | [d1, d2, d3] => { results := [.lit (.bool false)], args := [d1, d2, d3] }
  | _ => none }
def FnExactCompFarWrongFalsely : Prop := fnExactCompFarRow.holds Try.pinned (OpenSpec.ofChange fnExactCompFarWrong)

/-- 'laws.FnExactCompIndex': WHATEVER THE INPUT: true; the input reads as it did. -/
def fnExactCompIndexSpec : ChangeSpec := { name := "fnExactCompIndex", fn := fun _ => fun
  | [d] => { results := [.lit (.bool true)], args := [d] }
  | _ => none }
def fnExactCompIndexRow : OpenClaim := { program := "ytdibnmbppbgjfaa", sum := "307efdf1b14a8daf8b1e50e747b3e68f95ceabbaa7c39a4dfbc859d1e416a7af", func := "loop.example/fewrelations/laws.FnExactCompIndex", spec := "fnExactCompIndex", unfollowed := true, recurses := true, apart := false }
def FnExactCompIndexSaid : Prop := fnExactCompIndexRow.holds Try.pinned (OpenSpec.ofChange fnExactCompIndexSpec)

/-- ITS FALSE NEIGHBOUR: 'it returns false'. Refute it at one input. -/
def fnExactCompIndexWrong : ChangeSpec := { name := "fnExactCompIndex", fn := fun _ => fun
  | [d] => { results := [.lit (.bool false)], args := [d] }
  | _ => none }
def FnExactCompIndexWrongFalsely : Prop := fnExactCompIndexRow.holds Try.pinned (OpenSpec.ofChange fnExactCompIndexWrong)

/- THE SECOND FORM. 'bulk': how many values and letters a reading holds, each counted each time it is reached (what is shared counts as often as it is met; a slice's spare places count too). A statement '..UptoSaid' is the law's where the arguments, and the package variables that the reading takes, are together of bulk at most 1048576: NARROWER than '..Said'. Prove '..Said' where nothing that the law and all that it calls make is longer than what came in: it says more and counts as full. Else prove '..UptoSaid'. A law counts once. -/
mutual
def uptoBulk {H : Type} : DataW H → Nat
  | .lit (.string bytes) => bytes.length + 1
  | .lit _ => 1
  | .nil => 1
  | .ptr d => uptoBulk d + 1
  | .slice elems spare => uptoBulkAll elems + uptoBulkAll spare + 1
  | .agg parts => uptoBulkAll parts + 1
  | .iface _ d => uptoBulk d + 1
  | .map entries => uptoBulkEntries entries + 1
  | .held _ => 1
def uptoBulkAll {H : Type} : List (DataW H) → Nat
  | [] => 0
  | d :: r => uptoBulk d + uptoBulkAll r
def uptoBulkEntries {H : Type} : List (Lit × DataW H) → Nat
  | [] => 0
  | x :: r => uptoBulkEntry x + uptoBulkEntries r
def uptoBulkEntry {H : Type} : Lit × DataW H → Nat
  | (.string bytes, d) => bytes.length + uptoBulk d + 1
  | (_, d) => uptoBulk d + 1
 end
def uptoSmall : (H : Type) → List (DataW H) → Bool := fun _ ds => decide (uptoBulkAll ds ≤ 1048576)
def OpenSpec.upto (s : _root_.Go.ChangeSpec) : _root_.Go.OpenSpec := { _root_.Go.OpenSpec.ofChange s with cond := some uptoSmall }

/-- 'laws.FnExactCompOf', WHERE WHAT IT READS IS OF BULK AT MOST 1048576: true; the input reads as it did. -/
def fnExactCompOfUptoRow : OpenClaim := { program := "ytdibnmbppbgjfaa", sum := "307efdf1b14a8daf8b1e50e747b3e68f95ceabbaa7c39a4dfbc859d1e416a7af", func := "loop.example/fewrelations/laws.FnExactCompOf", spec := "fnExactCompOf", unfollowed := true, recurses := true, apart := false, narrowed := true }
def FnExactCompOfUptoSaid : Prop := fnExactCompOfUptoRow.holds Try.pinned (OpenSpec.upto fnExactCompOfSpec)

/-- 'laws.FnExactCompPower', WHERE WHAT IT READS IS OF BULK AT MOST 1048576: true; the input reads as it did. -/
def fnExactCompPowerUptoRow : OpenClaim := { program := "ytdibnmbppbgjfaa", sum := "307efdf1b14a8daf8b1e50e747b3e68f95ceabbaa7c39a4dfbc859d1e416a7af", func := "loop.example/fewrelations/laws.FnExactCompPower", spec := "fnExactCompPower", unfollowed := true, recurses := true, apart := false, narrowed := true }
def FnExactCompPowerUptoSaid : Prop := fnExactCompPowerUptoRow.holds Try.pinned (OpenSpec.upto fnExactCompPowerSpec)

/-- 'laws.FnExactCompLeft', WHERE WHAT IT READS IS OF BULK AT MOST 1048576: true; the input reads as it did. -/
def fnExactCompLeftUptoRow : OpenClaim := { program := "ytdibnmbppbgjfaa", sum := "307efdf1b14a8daf8b1e50e747b3e68f95ceabbaa7c39a4dfbc859d1e416a7af", func := "loop.example/fewrelations/laws.FnExactCompLeft", spec := "fnExactCompLeft", unfollowed := true, recurses := true, apart := false, narrowed := true }
def FnExactCompLeftUptoSaid : Prop := fnExactCompLeftUptoRow.holds Try.pinned (OpenSpec.upto fnExactCompLeftSpec)

/-- 'laws.FnExactCompRight', WHERE WHAT IT READS IS OF BULK AT MOST 1048576: true; the input reads as it did. -/
def fnExactCompRightUptoRow : OpenClaim := { program := "ytdibnmbppbgjfaa", sum := "307efdf1b14a8daf8b1e50e747b3e68f95ceabbaa7c39a4dfbc859d1e416a7af", func := "loop.example/fewrelations/laws.FnExactCompRight", spec := "fnExactCompRight", unfollowed := true, recurses := true, apart := false, narrowed := true }
def FnExactCompRightUptoSaid : Prop := fnExactCompRightUptoRow.holds Try.pinned (OpenSpec.upto fnExactCompRightSpec)

/-- 'laws.FnExactCompSolve', WHERE WHAT IT READS IS OF BULK AT MOST 1048576: true; the input reads as it did. -/
def fnExactCompSolveUptoRow : OpenClaim := { program := "ytdibnmbppbgjfaa", sum := "307efdf1b14a8daf8b1e50e747b3e68f95ceabbaa7c39a4dfbc859d1e416a7af", func := "loop.example/fewrelations/laws.FnExactCompSolve", spec := "fnExactCompSolve", unfollowed := true, recurses := true, apart := false, narrowed := true }
def FnExactCompSolveUptoSaid : Prop := fnExactCompSolveUptoRow.holds Try.pinned (OpenSpec.upto fnExactCompSolveSpec)

/-- 'laws.FnExactCompReach', WHERE WHAT IT READS IS OF BULK AT MOST 1048576: true; the input reads as it did. -/
def fnExactCompReachUptoRow : OpenClaim := { program := "ytdibnmbppbgjfaa", sum := "307efdf1b14a8daf8b1e50e747b3e68f95ceabbaa7c39a4dfbc859d1e416a7af", func := "loop.example/fewrelations/laws.FnExactCompReach", spec := "fnExactCompReach", unfollowed := true, recurses := true, apart := false, narrowed := true }
def FnExactCompReachUptoSaid : Prop := fnExactCompReachUptoRow.holds Try.pinned (OpenSpec.upto fnExactCompReachSpec)

/-- 'laws.FnExactCompStar', WHERE WHAT IT READS IS OF BULK AT MOST 1048576: true; the input reads as it did. -/
def fnExactCompStarUptoRow : OpenClaim := { program := "ytdibnmbppbgjfaa", sum := "307efdf1b14a8daf8b1e50e747b3e68f95ceabbaa7c39a4dfbc859d1e416a7af", func := "loop.example/fewrelations/laws.FnExactCompStar", spec := "fnExactCompStar", unfollowed := true, recurses := true, apart := false, narrowed := true }
def FnExactCompStarUptoSaid : Prop := fnExactCompStarUptoRow.holds Try.pinned (OpenSpec.upto fnExactCompStarSpec)

/-- 'laws.FnExactCompFar', WHERE WHAT IT READS IS OF BULK AT MOST 1048576: true; the input reads as it did. -/
def fnExactCompFarUptoRow : OpenClaim := { program := "ytdibnmbppbgjfaa", sum := "307efdf1b14a8daf8b1e50e747b3e68f95ceabbaa7c39a4dfbc859d1e416a7af", func := "loop.example/fewrelations/laws.FnExactCompFar", spec := "fnExactCompFar", unfollowed := true, recurses := true, apart := false, narrowed := true }
def FnExactCompFarUptoSaid : Prop := fnExactCompFarUptoRow.holds Try.pinned (OpenSpec.upto fnExactCompFarSpec)

/-- 'laws.FnExactCompIndex', WHERE WHAT IT READS IS OF BULK AT MOST 1048576: true; the input reads as it did. -/
def fnExactCompIndexUptoRow : OpenClaim := { program := "ytdibnmbppbgjfaa", sum := "307efdf1b14a8daf8b1e50e747b3e68f95ceabbaa7c39a4dfbc859d1e416a7af", func := "loop.example/fewrelations/laws.FnExactCompIndex", spec := "fnExactCompIndex", unfollowed := true, recurses := true, apart := false, narrowed := true }
def FnExactCompIndexUptoSaid : Prop := fnExactCompIndexUptoRow.holds Try.pinned (OpenSpec.upto fnExactCompIndexSpec)

end Rows
end Go.Proofs.Ytdibnmbppbgjfaa
