/-
  No cell of these rows narrows 'for every input' (looked for: loops, veiled, ifaces, maps, wideKeys, modest, calm, conditions, laid).
  DERIVED. THE GIVEN ROWS OF THIS SEAT. 13 by the template 'for every input the law returns true; each argument reads behind the call as it read before'; 0 by the template 'total and deterministic' (their statements: YtjiboflkifmheaaTotals.lean).
  GIVEN WITH THE SEED: the statements are not yours to turn. If you find one false, say at which input.
  Laid BY PROGRAM, IN A SANDBOX (cutbox-rows.mjs): the forced cells as the released guide's own fill.sh prints them over the translation 07a302a3d603ae38… (all of the seat's roots in one cut). By AI agents, Wed Nov 11 2026. No macro, syntax, notation, axiom, sorry.
-/
import Derived.Test.YtjiboflkifmheaaChecked
import GoSem.Claim
import GoSem.ClaimJoined
import GoSem.ClaimMapViews
import Derived.JoinedTies
import Derived.KernelRfl
namespace Go.Proofs.Ytjiboflkifmheaa
/- THE CELL 'sum', in the pinned program and in every row, IS THE sha256 OF THE DUMP (.gsa) THAT YtjiboflkifmheaaProg.lean LOADS. Nothing in Lean hashes anything: it is a label: what it is worth is what the hold of that sum in a sandbox is worth. -/
noncomputable def Try.pinned : Pinned := { name := "ytjiboflkifmheaa", sum := "07a302a3d603ae381ba28b5e23e0579be69451ce6f7cec23da423725195265c7", checked := Try.checked }
namespace Rows
def none {H : Type} : Left H := { results := [], args := [] }

/-- 'laws.FnRelEnds': WHATEVER THE INPUT: true; the input reads as it did. -/
def fnRelEndsSpec : ChangeSpec := { name := "fnRelEnds", fn := fun _ => fun
  | [d] => { results := [.lit (.bool true)], args := [d] }
  | _ => none }
def fnRelEndsRow : OpenClaim := { program := "ytjiboflkifmheaa", sum := "07a302a3d603ae381ba28b5e23e0579be69451ce6f7cec23da423725195265c7", func := "loop.example/fewrelations/laws.FnRelEnds", spec := "fnRelEnds", unfollowed := true, recurses := true, apart := false }
def FnRelEndsSaid : Prop := fnRelEndsRow.holds Try.pinned (OpenSpec.ofChange fnRelEndsSpec)

/-- ITS FALSE NEIGHBOUR: 'it returns false'. Refute it at one input. -/
def fnRelEndsWrong : ChangeSpec := { name := "fnRelEnds", fn := fun _ => fun
  | [d] => { results := [.lit (.bool false)], args := [d] }
  | _ => none }
def FnRelEndsWrongFalsely : Prop := fnRelEndsRow.holds Try.pinned (OpenSpec.ofChange fnRelEndsWrong)

/-- 'laws.FnExactRelIn': WHATEVER THE INPUT: true; the input reads as it did. -/
def fnExactRelInSpec : ChangeSpec := { name := "fnExactRelIn", fn := fun _ => fun
  | [d] => { results := [.lit (.bool true)], args := [d] }
  | _ => none }
def fnExactRelInRow : OpenClaim := { program := "ytjiboflkifmheaa", sum := "07a302a3d603ae381ba28b5e23e0579be69451ce6f7cec23da423725195265c7", func := "loop.example/fewrelations/laws.FnExactRelIn", spec := "fnExactRelIn", apart := false }
def FnExactRelInSaid : Prop := fnExactRelInRow.holds Try.pinned (OpenSpec.ofChange fnExactRelInSpec)

/-- ITS FALSE NEIGHBOUR: 'it returns false'. Refute it at one input. -/
def fnExactRelInWrong : ChangeSpec := { name := "fnExactRelIn", fn := fun _ => fun
  | [d] => { results := [.lit (.bool false)], args := [d] }
  | _ => none }
def FnExactRelInWrongFalsely : Prop := fnExactRelInRow.holds Try.pinned (OpenSpec.ofChange fnExactRelInWrong)

/-- 'laws.FnExactRelOf': WHATEVER THE INPUT: true; the input reads as it did. -/
def fnExactRelOfSpec : ChangeSpec := { name := "fnExactRelOf", fn := fun _ => fun
  | [d1, d2] => { results := [.lit (.bool true)], args := [d1, d2] }
  | _ => none }
def fnExactRelOfRow : OpenClaim := { program := "ytjiboflkifmheaa", sum := "07a302a3d603ae381ba28b5e23e0579be69451ce6f7cec23da423725195265c7", func := "loop.example/fewrelations/laws.FnExactRelOf", spec := "fnExactRelOf", apart := false }
def FnExactRelOfSaid : Prop := fnExactRelOfRow.holds Try.pinned (OpenSpec.ofChange fnExactRelOfSpec)

/-- ITS FALSE NEIGHBOUR: 'it returns false'. Refute it at one input. -/
def fnExactRelOfWrong : ChangeSpec := { name := "fnExactRelOf", fn := fun _ => fun
  | [d1, d2] => { results := [.lit (.bool false)], args := [d1, d2] }
  | _ => none }
def FnExactRelOfWrongFalsely : Prop := fnExactRelOfRow.holds Try.pinned (OpenSpec.ofChange fnExactRelOfWrong)

/-- 'laws.FnExactRelPairs': WHATEVER THE INPUT: true; the input reads as it did. -/
def fnExactRelPairsSpec : ChangeSpec := { name := "fnExactRelPairs", fn := fun _ => fun
  | [d] => { results := [.lit (.bool true)], args := [d] }
  | _ => none }
def fnExactRelPairsRow : OpenClaim := { program := "ytjiboflkifmheaa", sum := "07a302a3d603ae381ba28b5e23e0579be69451ce6f7cec23da423725195265c7", func := "loop.example/fewrelations/laws.FnExactRelPairs", spec := "fnExactRelPairs", unfollowed := true, recurses := true, apart := false }
def FnExactRelPairsSaid : Prop := fnExactRelPairsRow.holds Try.pinned (OpenSpec.ofChange fnExactRelPairsSpec)

/-- ITS FALSE NEIGHBOUR: 'it returns false'. Refute it at one input. -/
def fnExactRelPairsWrong : ChangeSpec := { name := "fnExactRelPairs", fn := fun _ => fun
  | [d] => { results := [.lit (.bool false)], args := [d] }
  | _ => none }
def FnExactRelPairsWrongFalsely : Prop := fnExactRelPairsRow.holds Try.pinned (OpenSpec.ofChange fnExactRelPairsWrong)

/-- 'laws.FnExactRelEither': WHATEVER THE INPUT: true; the input reads as it did. -/
def fnExactRelEitherSpec : ChangeSpec := { name := "fnExactRelEither", fn := fun _ => fun
  | [d1, d2] => { results := [.lit (.bool true)], args := [d1, d2] }
  | _ => none }
def fnExactRelEitherRow : OpenClaim := { program := "ytjiboflkifmheaa", sum := "07a302a3d603ae381ba28b5e23e0579be69451ce6f7cec23da423725195265c7", func := "loop.example/fewrelations/laws.FnExactRelEither", spec := "fnExactRelEither", unfollowed := true, recurses := true, apart := false }
def FnExactRelEitherSaid : Prop := fnExactRelEitherRow.holds Try.pinned (OpenSpec.ofChange fnExactRelEitherSpec)

/-- ITS FALSE NEIGHBOUR: 'it returns false'. Refute it at one input. -/
def fnExactRelEitherWrong : ChangeSpec := { name := "fnExactRelEither", fn := fun _ => fun
  | [d1, d2] => { results := [.lit (.bool false)], args := [d1, d2] }
  | _ => none }
def FnExactRelEitherWrongFalsely : Prop := fnExactRelEitherRow.holds Try.pinned (OpenSpec.ofChange fnExactRelEitherWrong)

/-- 'laws.FnExactRelBoth': WHATEVER THE INPUT: true; the input reads as it did. -/
def fnExactRelBothSpec : ChangeSpec := { name := "fnExactRelBoth", fn := fun _ => fun
  | [d1, d2] => { results := [.lit (.bool true)], args := [d1, d2] }
  | _ => none }
def fnExactRelBothRow : OpenClaim := { program := "ytjiboflkifmheaa", sum := "07a302a3d603ae381ba28b5e23e0579be69451ce6f7cec23da423725195265c7", func := "loop.example/fewrelations/laws.FnExactRelBoth", spec := "fnExactRelBoth", unfollowed := true, recurses := true, apart := false }
def FnExactRelBothSaid : Prop := fnExactRelBothRow.holds Try.pinned (OpenSpec.ofChange fnExactRelBothSpec)

/-- ITS FALSE NEIGHBOUR: 'it returns false'. Refute it at one input. -/
def fnExactRelBothWrong : ChangeSpec := { name := "fnExactRelBoth", fn := fun _ => fun
  | [d1, d2] => { results := [.lit (.bool false)], args := [d1, d2] }
  | _ => none }
def FnExactRelBothWrongFalsely : Prop := fnExactRelBothRow.holds Try.pinned (OpenSpec.ofChange fnExactRelBothWrong)

/-- 'laws.FnExactRelOther': WHATEVER THE INPUT: true; the input reads as it did. -/
def fnExactRelOtherSpec : ChangeSpec := { name := "fnExactRelOther", fn := fun _ => fun
  | [d] => { results := [.lit (.bool true)], args := [d] }
  | _ => none }
def fnExactRelOtherRow : OpenClaim := { program := "ytjiboflkifmheaa", sum := "07a302a3d603ae381ba28b5e23e0579be69451ce6f7cec23da423725195265c7", func := "loop.example/fewrelations/laws.FnExactRelOther", spec := "fnExactRelOther", unfollowed := true, recurses := true, apart := false }
def FnExactRelOtherSaid : Prop := fnExactRelOtherRow.holds Try.pinned (OpenSpec.ofChange fnExactRelOtherSpec)

/-- ITS FALSE NEIGHBOUR: 'it returns false'. Refute it at one input. -/
def fnExactRelOtherWrong : ChangeSpec := { name := "fnExactRelOther", fn := fun _ => fun
  | [d] => { results := [.lit (.bool false)], args := [d] }
  | _ => none }
def FnExactRelOtherWrongFalsely : Prop := fnExactRelOtherRow.holds Try.pinned (OpenSpec.ofChange fnExactRelOtherWrong)

/-- 'laws.FnExactRelTurned': WHATEVER THE INPUT: true; the input reads as it did. -/
def fnExactRelTurnedSpec : ChangeSpec := { name := "fnExactRelTurned", fn := fun _ => fun
  | [d] => { results := [.lit (.bool true)], args := [d] }
  | _ => none }
def fnExactRelTurnedRow : OpenClaim := { program := "ytjiboflkifmheaa", sum := "07a302a3d603ae381ba28b5e23e0579be69451ce6f7cec23da423725195265c7", func := "loop.example/fewrelations/laws.FnExactRelTurned", spec := "fnExactRelTurned", unfollowed := true, recurses := true, apart := false }
def FnExactRelTurnedSaid : Prop := fnExactRelTurnedRow.holds Try.pinned (OpenSpec.ofChange fnExactRelTurnedSpec)

/-- ITS FALSE NEIGHBOUR: 'it returns false'. Refute it at one input. -/
def fnExactRelTurnedWrong : ChangeSpec := { name := "fnExactRelTurned", fn := fun _ => fun
  | [d] => { results := [.lit (.bool false)], args := [d] }
  | _ => none }
def FnExactRelTurnedWrongFalsely : Prop := fnExactRelTurnedRow.holds Try.pinned (OpenSpec.ofChange fnExactRelTurnedWrong)

/-- 'laws.FnExactRelBelow': WHATEVER THE INPUT: true; the input reads as it did. -/
def fnExactRelBelowSpec : ChangeSpec := { name := "fnExactRelBelow", fn := fun _ => fun
  | [d1, d2] => { results := [.lit (.bool true)], args := [d1, d2] }
  | _ => none }
def fnExactRelBelowRow : OpenClaim := { program := "ytjiboflkifmheaa", sum := "07a302a3d603ae381ba28b5e23e0579be69451ce6f7cec23da423725195265c7", func := "loop.example/fewrelations/laws.FnExactRelBelow", spec := "fnExactRelBelow", apart := false }
def FnExactRelBelowSaid : Prop := fnExactRelBelowRow.holds Try.pinned (OpenSpec.ofChange fnExactRelBelowSpec)

/-- ITS FALSE NEIGHBOUR: 'it returns false'. Refute it at one input. -/
def fnExactRelBelowWrong : ChangeSpec := { name := "fnExactRelBelow", fn := fun _ => fun
  | [d1, d2] => { results := [.lit (.bool false)], args := [d1, d2] }
  | _ => none }
def FnExactRelBelowWrongFalsely : Prop := fnExactRelBelowRow.holds Try.pinned (OpenSpec.ofChange fnExactRelBelowWrong)

/-- 'laws.FnExactRelSame': WHATEVER THE INPUT: true; the input reads as it did. -/
def fnExactRelSameSpec : ChangeSpec := { name := "fnExactRelSame", fn := fun _ => fun
  | [d] => { results := [.lit (.bool true)], args := [d] }
  | _ => none }
def fnExactRelSameRow : OpenClaim := { program := "ytjiboflkifmheaa", sum := "07a302a3d603ae381ba28b5e23e0579be69451ce6f7cec23da423725195265c7", func := "loop.example/fewrelations/laws.FnExactRelSame", spec := "fnExactRelSame", apart := false }
def FnExactRelSameSaid : Prop := fnExactRelSameRow.holds Try.pinned (OpenSpec.ofChange fnExactRelSameSpec)

/-- ITS FALSE NEIGHBOUR: 'it returns false'. Refute it at one input. -/
def fnExactRelSameWrong : ChangeSpec := { name := "fnExactRelSame", fn := fun _ => fun
  | [d] => { results := [.lit (.bool false)], args := [d] }
  | _ => none }
def FnExactRelSameWrongFalsely : Prop := fnExactRelSameRow.holds Try.pinned (OpenSpec.ofChange fnExactRelSameWrong)

/-- 'laws.FnExactRelNamed': WHATEVER THE INPUT: true; the input reads as it did. -/
def fnExactRelNamedSpec : ChangeSpec := { name := "fnExactRelNamed", fn := fun _ => fun
  | [d1, d2] => { results := [.lit (.bool true)], args := [d1, d2] }
  | _ => none }
def fnExactRelNamedRow : OpenClaim := { program := "ytjiboflkifmheaa", sum := "07a302a3d603ae381ba28b5e23e0579be69451ce6f7cec23da423725195265c7", func := "loop.example/fewrelations/laws.FnExactRelNamed", spec := "fnExactRelNamed", unfollowed := true, recurses := true, apart := false }
def FnExactRelNamedSaid : Prop := fnExactRelNamedRow.holds Try.pinned (OpenSpec.ofChange fnExactRelNamedSpec)

/-- ITS FALSE NEIGHBOUR: 'it returns false'. Refute it at one input. -/
def fnExactRelNamedWrong : ChangeSpec := { name := "fnExactRelNamed", fn := fun _ => fun
  | [d1, d2] => { results := [.lit (.bool false)], args := [d1, d2] }
  | _ => none }
def FnExactRelNamedWrongFalsely : Prop := fnExactRelNamedRow.holds Try.pinned (OpenSpec.ofChange fnExactRelNamedWrong)

/-- 'laws.FnExactRelEnds': WHATEVER THE INPUT: true; the input reads as it did. -/
def fnExactRelEndsSpec : ChangeSpec := { name := "fnExactRelEnds", fn := fun _ => fun
  | [d] => { results := [.lit (.bool true)], args := [d] }
  | _ => none }
def fnExactRelEndsRow : OpenClaim := { program := "ytjiboflkifmheaa", sum := "07a302a3d603ae381ba28b5e23e0579be69451ce6f7cec23da423725195265c7", func := "loop.example/fewrelations/laws.FnExactRelEnds", spec := "fnExactRelEnds", unfollowed := true, recurses := true, apart := false }
def FnExactRelEndsSaid : Prop := fnExactRelEndsRow.holds Try.pinned (OpenSpec.ofChange fnExactRelEndsSpec)

/-- ITS FALSE NEIGHBOUR: 'it returns false'. Refute it at one input. -/
def fnExactRelEndsWrong : ChangeSpec := { name := "fnExactRelEnds", fn := fun _ => fun
  | [d] => { results := [.lit (.bool false)], args := [d] }
  | _ => none }
def FnExactRelEndsWrongFalsely : Prop := fnExactRelEndsRow.holds Try.pinned (OpenSpec.ofChange fnExactRelEndsWrong)

/-- 'laws.FnExactRelSize': WHATEVER THE INPUT: true; the input reads as it did. -/
def fnExactRelSizeSpec : ChangeSpec := { name := "fnExactRelSize", fn := fun _ => fun
  | [d] => { results := [.lit (.bool true)], args := [d] }
  | _ => none }
def fnExactRelSizeRow : OpenClaim := { program := "ytjiboflkifmheaa", sum := "07a302a3d603ae381ba28b5e23e0579be69451ce6f7cec23da423725195265c7", func := "loop.example/fewrelations/laws.FnExactRelSize", spec := "fnExactRelSize", apart := false }
def FnExactRelSizeSaid : Prop := fnExactRelSizeRow.holds Try.pinned (OpenSpec.ofChange fnExactRelSizeSpec)

/-- ITS FALSE NEIGHBOUR: 'it returns false'. Refute it at one input. -/
def fnExactRelSizeWrong : ChangeSpec := { name := "fnExactRelSize", fn := fun _ => fun
  | [d] => { results := [.lit (.bool false)], args := [d] }
  | _ => none }
def FnExactRelSizeWrongFalsely : Prop := fnExactRelSizeRow.holds Try.pinned (OpenSpec.ofChange fnExactRelSizeWrong)

/- THE SECOND FORM. 'bulk': how many values and letters a reading holds, each counted each time it is reached (what is shared counts as often as it is met; a slice's spare places count too). A statement '..UptoSaid' is the law's where the arguments, and the package variables that the reading takes, are together of bulk at most 1048576: NARROWER than '..Said'. Prove '..Said' where nothing that the law and all that it calls make is longer than what came in: it says more and counts as full. Else prove '..UptoSaid'. A law counts once. -/
mutual
def uptoBulk {H : Type} : DataW H → Nat
  | .lit (.string bytes) => bytes.length + 1
  | .lit _ => 1
  | .nil => 1
  | .ptr d => uptoBulk d + 1
  | .slice elems spare => uptoBulkAll elems + uptoBulkAll spare + 1
  | .agg parts => uptoBulkAll parts + 1
  | .iface _ d => uptoBulk d + 1
  | .map entries => uptoBulkEntries entries + 1
  | .held _ => 1
def uptoBulkAll {H : Type} : List (DataW H) → Nat
  | [] => 0
  | d :: r => uptoBulk d + uptoBulkAll r
def uptoBulkEntries {H : Type} : List (Lit × DataW H) → Nat
  | [] => 0
  | x :: r => uptoBulkEntry x + uptoBulkEntries r
def uptoBulkEntry {H : Type} : Lit × DataW H → Nat
  | (.string bytes, d) => bytes.length + uptoBulk d + 1
  | (_, d) => uptoBulk d + 1
 end
def uptoSmall : (H : Type) → List (DataW H) → Bool := fun _ ds => decide (uptoBulkAll ds ≤ 1048576)
def OpenSpec.upto (s : _root_.Go.ChangeSpec) : _root_.Go.OpenSpec := { _root_.Go.OpenSpec.ofChange s with cond := some uptoSmall }

/-- 'laws.FnRelEnds', WHERE WHAT IT READS IS OF BULK AT MOST 1048576: true; the input reads as it did. -/
def fnRelEndsUptoRow : OpenClaim := { program := "ytjiboflkifmheaa", sum := "07a302a3d603ae381ba28b5e23e0579be69451ce6f7cec23da423725195265c7", func := "loop.example/fewrelations/laws.FnRelEnds", spec := "fnRelEnds", unfollowed := true, recurses := true, apart := false, narrowed := true }
def FnRelEndsUptoSaid : Prop := fnRelEndsUptoRow.holds Try.pinned (OpenSpec.upto fnRelEndsSpec)

/-- 'laws.FnExactRelIn', WHERE WHAT IT READS IS OF BULK AT MOST 1048576: true; the input reads as it did. -/
def fnExactRelInUptoRow : OpenClaim := { program := "ytjiboflkifmheaa", sum := "07a302a3d603ae381ba28b5e23e0579be69451ce6f7cec23da423725195265c7", func := "loop.example/fewrelations/laws.FnExactRelIn", spec := "fnExactRelIn", apart := false, narrowed := true }
def FnExactRelInUptoSaid : Prop := fnExactRelInUptoRow.holds Try.pinned (OpenSpec.upto fnExactRelInSpec)

/-- 'laws.FnExactRelOf', WHERE WHAT IT READS IS OF BULK AT MOST 1048576: true; the input reads as it did. -/
def fnExactRelOfUptoRow : OpenClaim := { program := "ytjiboflkifmheaa", sum := "07a302a3d603ae381ba28b5e23e0579be69451ce6f7cec23da423725195265c7", func := "loop.example/fewrelations/laws.FnExactRelOf", spec := "fnExactRelOf", apart := false, narrowed := true }
def FnExactRelOfUptoSaid : Prop := fnExactRelOfUptoRow.holds Try.pinned (OpenSpec.upto fnExactRelOfSpec)

/-- 'laws.FnExactRelPairs', WHERE WHAT IT READS IS OF BULK AT MOST 1048576: true; the input reads as it did. -/
def fnExactRelPairsUptoRow : OpenClaim := { program := "ytjiboflkifmheaa", sum := "07a302a3d603ae381ba28b5e23e0579be69451ce6f7cec23da423725195265c7", func := "loop.example/fewrelations/laws.FnExactRelPairs", spec := "fnExactRelPairs", unfollowed := true, recurses := true, apart := false, narrowed := true }
def FnExactRelPairsUptoSaid : Prop := fnExactRelPairsUptoRow.holds Try.pinned (OpenSpec.upto fnExactRelPairsSpec)

/-- 'laws.FnExactRelEither', WHERE WHAT IT READS IS OF BULK AT MOST 1048576: true; the input reads as it did. -/
def fnExactRelEitherUptoRow : OpenClaim := { program := "ytjiboflkifmheaa", sum := "07a302a3d603ae381ba28b5e23e0579be69451ce6f7cec23da423725195265c7", func := "loop.example/fewrelations/laws.FnExactRelEither", spec := "fnExactRelEither", unfollowed := true, recurses := true, apart := false, narrowed := true }
def FnExactRelEitherUptoSaid : Prop := fnExactRelEitherUptoRow.holds Try.pinned (OpenSpec.upto fnExactRelEitherSpec)

/-- 'laws.FnExactRelBoth', WHERE WHAT IT READS IS OF BULK AT MOST 1048576: true; the input reads as it did. -/
def fnExactRelBothUptoRow : OpenClaim := { program := "ytjiboflkifmheaa", sum := "07a302a3d603ae381ba28b5e23e0579be69451ce6f7cec23da423725195265c7", func := "loop.example/fewrelations/laws.FnExactRelBoth", spec := "fnExactRelBoth", unfollowed := true, recurses := true, apart := false, narrowed := true }
def FnExactRelBothUptoSaid : Prop := fnExactRelBothUptoRow.holds Try.pinned (OpenSpec.upto fnExactRelBothSpec)

/-- 'laws.FnExactRelOther', WHERE WHAT IT READS IS OF BULK AT MOST 1048576: true; the input reads as it did. -/
def fnExactRelOtherUptoRow : OpenClaim := { program := "ytjiboflkifmheaa", sum := "07a302a3d603ae381ba28b5e23e0579be69451ce6f7cec23da423725195265c7", func := "loop.example/fewrelations/laws.FnExactRelOther", spec := "fnExactRelOther", unfollowed := true, recurses := true, apart := false, narrowed := true }
def FnExactRelOtherUptoSaid : Prop := fnExactRelOtherUptoRow.holds Try.pinned (OpenSpec.upto fnExactRelOtherSpec)

/-- 'laws.FnExactRelTurned', WHERE WHAT IT READS IS OF BULK AT MOST 1048576: true; the input reads as it did. -/
def fnExactRelTurnedUptoRow : OpenClaim := { program := "ytjiboflkifmheaa", sum := "07a302a3d603ae381ba28b5e23e0579be69451ce6f7cec23da423725195265c7", func := "loop.example/fewrelations/laws.FnExactRelTurned", spec := "fnExactRelTurned", unfollowed := true, recurses := true, apart := false, narrowed := true }
def FnExactRelTurnedUptoSaid : Prop := fnExactRelTurnedUptoRow.holds Try.pinned (OpenSpec.upto fnExactRelTurnedSpec)

/-- 'laws.FnExactRelBelow', WHERE WHAT IT READS IS OF BULK AT MOST 1048576: true; the input reads as it did. -/
def fnExactRelBelowUptoRow : OpenClaim := { program := "ytjiboflkifmheaa", sum := "07a302a3d603ae381ba28b5e23e0579be69451ce6f7cec23da423725195265c7", func := "loop.example/fewrelations/laws.FnExactRelBelow", spec := "fnExactRelBelow", apart := false, narrowed := true }
def FnExactRelBelowUptoSaid : Prop := fnExactRelBelowUptoRow.holds Try.pinned (OpenSpec.upto fnExactRelBelowSpec)

/-- 'laws.FnExactRelSame', WHERE WHAT IT READS IS OF BULK AT MOST 1048576: true; the input reads as it did. -/
def fnExactRelSameUptoRow : OpenClaim := { program := "ytjiboflkifmheaa", sum := "07a302a3d603ae381ba28b5e23e0579be69451ce6f7cec23da423725195265c7", func := "loop.example/fewrelations/laws.FnExactRelSame", spec := "fnExactRelSame", apart := false, narrowed := true }
def FnExactRelSameUptoSaid : Prop := fnExactRelSameUptoRow.holds Try.pinned (OpenSpec.upto fnExactRelSameSpec)

/-- 'laws.FnExactRelNamed', WHERE WHAT IT READS IS OF BULK AT MOST 1048576: true; the input reads as it did. -/
def fnExactRelNamedUptoRow : OpenClaim := { program := "ytjiboflkifmheaa", sum := "07a302a3d603ae381ba28b5e23e0579be69451ce6f7cec23da423725195265c7", func := "loop.example/fewrelations/laws.FnExactRelNamed", spec := "fnExactRelNamed", unfollowed := true, recurses := true, apart := false, narrowed := true }
def FnExactRelNamedUptoSaid : Prop := fnExactRelNamedUptoRow.holds Try.pinned (OpenSpec.upto fnExactRelNamedSpec)

/-- 'laws.FnExactRelEnds', WHERE WHAT IT READS IS OF BULK AT MOST 1048576: true; the input reads as it did. -/
def fnExactRelEndsUptoRow : OpenClaim := { program := "ytjiboflkifmheaa", sum := "07a302a3d603ae381ba28b5e23e0579be69451ce6f7cec23da423725195265c7", func := "loop.example/fewrelations/laws.FnExactRelEnds", spec := "fnExactRelEnds", unfollowed := true, recurses := true, apart := false, narrowed := true }
def FnExactRelEndsUptoSaid : Prop := fnExactRelEndsUptoRow.holds Try.pinned (OpenSpec.upto fnExactRelEndsSpec)

/-- 'laws.FnExactRelSize', WHERE WHAT IT READS IS OF BULK AT MOST 1048576: true; the input reads as it did. -/
def fnExactRelSizeUptoRow : OpenClaim := { program := "ytjiboflkifmheaa", sum := "07a302a3d603ae381ba28b5e23e0579be69451ce6f7cec23da423725195265c7", func := "loop.example/fewrelations/laws.FnExactRelSize", spec := "fnExactRelSize", apart := false, narrowed := true }
def FnExactRelSizeUptoSaid : Prop := fnExactRelSizeUptoRow.holds Try.pinned (OpenSpec.upto fnExactRelSizeSpec)

end Rows
end Go.Proofs.Ytjiboflkifmheaa
