/-
  No cell of these rows narrows 'for every input' (looked for: loops, veiled, ifaces, maps, wideKeys, modest, calm, conditions, laid).
  DERIVED. THE GIVEN ROWS OF THIS SEAT. 10 by the template 'for every input the law returns true; each argument reads behind the call as it read before'; 0 by the template 'total and deterministic' (their statements: YtcdiicckngndcaaTotals.lean).
  GIVEN WITH THE SEED: the statements are not yours to turn. If you find one false, say at which input.
  Laid BY PROGRAM, IN A SANDBOX (cutbox-rows.mjs): the forced cells as the released guide's own fill.sh prints them over the translation 433f2da5f2f04387… (all of the seat's roots in one cut). By AI agents, Wed Nov 11 2026. No macro, syntax, notation, axiom, sorry.
-/
import Derived.Test.YtcdiicckngndcaaChecked
import GoSem.Claim
import GoSem.ClaimJoined
import GoSem.ClaimMapViews
import Derived.JoinedTies
import Derived.KernelRfl
namespace Go.Proofs.Ytcdiicckngndcaa
/- THE CELL 'sum', in the pinned program and in every row, IS THE sha256 OF THE DUMP (.gsa) THAT YtcdiicckngndcaaProg.lean LOADS. Nothing in Lean hashes anything: it is a label: what it is worth is what the hold of that sum in a sandbox is worth. -/
noncomputable def Try.pinned : Pinned := { name := "ytcdiicckngndcaa", sum := "433f2da5f2f04387cb02d3891eb0a0005898b3dd50b8eaf2c0fd54f7bc219c43", checked := Try.checked }
namespace Rows
def none {H : Type} : Left H := { results := [], args := [] }

/-- 'laws.FnExactProgAfter': WHATEVER THE INPUT: true; the input reads as it did. -/
def fnExactProgAfterSpec : ChangeSpec := { name := "fnExactProgAfter", fn := fun _ => fun
  | [d1, d2] => { results := [.lit (.bool true)], args := [d1, d2] }
  | _ => none }
def fnExactProgAfterRow : OpenClaim := { program := "ytcdiicckngndcaa", sum := "433f2da5f2f04387cb02d3891eb0a0005898b3dd50b8eaf2c0fd54f7bc219c43", func := "loop.example/fewrelations/laws.FnExactProgAfter", spec := "fnExactProgAfter", unfollowed := true, recurses := true, apart := false }
def FnExactProgAfterSaid : Prop := fnExactProgAfterRow.holds Try.pinned (OpenSpec.ofChange fnExactProgAfterSpec)

/-- ITS FALSE NEIGHBOUR: 'it returns false'. Refute it at one input. -/
def fnExactProgAfterWrong : ChangeSpec := { name := "fnExactProgAfter", fn := fun _ => fun
  | [d1, d2] => { results := [.lit (.bool false)], args := [d1, d2] }
  | _ => none }
def FnExactProgAfterWrongFalsely : Prop := fnExactProgAfterRow.holds Try.pinned (OpenSpec.ofChange fnExactProgAfterWrong)

/-- 'laws.FnExactProgBefore': WHATEVER THE INPUT: true; the input reads as it did. -/
def fnExactProgBeforeSpec : ChangeSpec := { name := "fnExactProgBefore", fn := fun _ => fun
  | [d1, d2] => { results := [.lit (.bool true)], args := [d1, d2] }
  | _ => none }
def fnExactProgBeforeRow : OpenClaim := { program := "ytcdiicckngndcaa", sum := "433f2da5f2f04387cb02d3891eb0a0005898b3dd50b8eaf2c0fd54f7bc219c43", func := "loop.example/fewrelations/laws.FnExactProgBefore", spec := "fnExactProgBefore", unfollowed := true, recurses := true, apart := false }
def FnExactProgBeforeSaid : Prop := fnExactProgBeforeRow.holds Try.pinned (OpenSpec.ofChange fnExactProgBeforeSpec)

/-- ITS FALSE NEIGHBOUR: 'it returns false'. Refute it at one input. -/
def fnExactProgBeforeWrong : ChangeSpec := { name := "fnExactProgBefore", fn := fun _ => fun
  | [d1, d2] => { results := [.lit (.bool false)], args := [d1, d2] }
  | _ => none }
def FnExactProgBeforeWrongFalsely : Prop := fnExactProgBeforeRow.holds Try.pinned (OpenSpec.ofChange fnExactProgBeforeWrong)

/-- 'laws.FnExactProgSurely': WHATEVER THE INPUT: true; the input reads as it did. -/
def fnExactProgSurelySpec : ChangeSpec := { name := "fnExactProgSurely", fn := fun _ => fun
  | [d1, d2] => { results := [.lit (.bool true)], args := [d1, d2] }
  | _ => none }
def fnExactProgSurelyRow : OpenClaim := { program := "ytcdiicckngndcaa", sum := "433f2da5f2f04387cb02d3891eb0a0005898b3dd50b8eaf2c0fd54f7bc219c43", func := "loop.example/fewrelations/laws.FnExactProgSurely", spec := "fnExactProgSurely", unfollowed := true, recurses := true, apart := false }
def FnExactProgSurelySaid : Prop := fnExactProgSurelyRow.holds Try.pinned (OpenSpec.ofChange fnExactProgSurelySpec)

/-- ITS FALSE NEIGHBOUR: 'it returns false'. Refute it at one input. -/
def fnExactProgSurelyWrong : ChangeSpec := { name := "fnExactProgSurely", fn := fun _ => fun
  | [d1, d2] => { results := [.lit (.bool false)], args := [d1, d2] }
  | _ => none }
def FnExactProgSurelyWrongFalsely : Prop := fnExactProgSurelyRow.holds Try.pinned (OpenSpec.ofChange fnExactProgSurelyWrong)

/-- 'laws.FnExactProgTriple': WHATEVER THE INPUT: true; the input reads as it did. -/
def fnExactProgTripleSpec : ChangeSpec := { name := "fnExactProgTriple", fn := fun _ => fun
  | [d1, d2, d3] => { results := [.lit (.bool true)], args := [d1, d2, d3] }
  | _ => none }
def fnExactProgTripleRow : OpenClaim := { program := "ytcdiicckngndcaa", sum := "433f2da5f2f04387cb02d3891eb0a0005898b3dd50b8eaf2c0fd54f7bc219c43", func := "loop.example/fewrelations/laws.FnExactProgTriple", spec := "fnExactProgTriple", unfollowed := true, recurses := true, apart := false }
def FnExactProgTripleSaid : Prop := fnExactProgTripleRow.holds Try.pinned (OpenSpec.ofChange fnExactProgTripleSpec)

/-- ITS FALSE NEIGHBOUR: 'it returns false'. Refute it at one input. -/
def fnExactProgTripleWrong : ChangeSpec := { name := "fnExactProgTriple", fn := fun _ => fun
  | [d1, d2, d3] => { results := [.lit (.bool false)], args := [d1, d2, d3] }
  | _ => none }
def FnExactProgTripleWrongFalsely : Prop := fnExactProgTripleRow.holds Try.pinned (OpenSpec.ofChange fnExactProgTripleWrong)

/-- 'laws.FnExactProgIf': WHATEVER THE INPUT: true; the input reads as it did. -/
def fnExactProgIfSpec : ChangeSpec := { name := "fnExactProgIf", fn := fun _ => fun
  | [d1, d2, d3] => { results := [.lit (.bool true)], args := [d1, d2, d3] }
  | _ => none }
def fnExactProgIfRow : OpenClaim := { program := "ytcdiicckngndcaa", sum := "433f2da5f2f04387cb02d3891eb0a0005898b3dd50b8eaf2c0fd54f7bc219c43", func := "loop.example/fewrelations/laws.FnExactProgIf", spec := "fnExactProgIf", unfollowed := true, recurses := true, apart := false }
def FnExactProgIfSaid : Prop := fnExactProgIfRow.holds Try.pinned (OpenSpec.ofChange fnExactProgIfSpec)

/-- ITS FALSE NEIGHBOUR: 'it returns false'. Refute it at one input. -/
def fnExactProgIfWrong : ChangeSpec := { name := "fnExactProgIf", fn := fun _ => fun
  | [d1, d2, d3] => { results := [.lit (.bool false)], args := [d1, d2, d3] }
  | _ => none }
def FnExactProgIfWrongFalsely : Prop := fnExactProgIfRow.holds Try.pinned (OpenSpec.ofChange fnExactProgIfWrong)

/-- 'laws.FnExactProgWhile': WHATEVER THE INPUT: true; the input reads as it did. -/
def fnExactProgWhileSpec : ChangeSpec := { name := "fnExactProgWhile", fn := fun _ => fun
  | [d1, d2] => { results := [.lit (.bool true)], args := [d1, d2] }
  | _ => none }
def fnExactProgWhileRow : OpenClaim := { program := "ytcdiicckngndcaa", sum := "433f2da5f2f04387cb02d3891eb0a0005898b3dd50b8eaf2c0fd54f7bc219c43", func := "loop.example/fewrelations/laws.FnExactProgWhile", spec := "fnExactProgWhile", unfollowed := true, recurses := true, apart := false }
def FnExactProgWhileSaid : Prop := fnExactProgWhileRow.holds Try.pinned (OpenSpec.ofChange fnExactProgWhileSpec)

/-- ITS FALSE NEIGHBOUR: 'it returns false'. Refute it at one input. -/
def fnExactProgWhileWrong : ChangeSpec := { name := "fnExactProgWhile", fn := fun _ => fun
  | [d1, d2] => { results := [.lit (.bool false)], args := [d1, d2] }
  | _ => none }
def FnExactProgWhileWrongFalsely : Prop := fnExactProgWhileRow.holds Try.pinned (OpenSpec.ofChange fnExactProgWhileWrong)

/-- 'laws.FnExactProgEnds': WHATEVER THE INPUT: true; the input reads as it did. -/
def fnExactProgEndsSpec : ChangeSpec := { name := "fnExactProgEnds", fn := fun _ => fun
  | [d1, d2] => { results := [.lit (.bool true)], args := [d1, d2] }
  | _ => none }
def fnExactProgEndsRow : OpenClaim := { program := "ytcdiicckngndcaa", sum := "433f2da5f2f04387cb02d3891eb0a0005898b3dd50b8eaf2c0fd54f7bc219c43", func := "loop.example/fewrelations/laws.FnExactProgEnds", spec := "fnExactProgEnds", unfollowed := true, recurses := true, apart := false }
def FnExactProgEndsSaid : Prop := fnExactProgEndsRow.holds Try.pinned (OpenSpec.ofChange fnExactProgEndsSpec)

/-- ITS FALSE NEIGHBOUR: 'it returns false'. Refute it at one input. -/
def fnExactProgEndsWrong : ChangeSpec := { name := "fnExactProgEnds", fn := fun _ => fun
  | [d1, d2] => { results := [.lit (.bool false)], args := [d1, d2] }
  | _ => none }
def FnExactProgEndsWrongFalsely : Prop := fnExactProgEndsRow.holds Try.pinned (OpenSpec.ofChange fnExactProgEndsWrong)

/-- 'laws.FnExactProgKept': WHATEVER THE INPUT: true; the input reads as it did. -/
def fnExactProgKeptSpec : ChangeSpec := { name := "fnExactProgKept", fn := fun _ => fun
  | [d1, d2] => { results := [.lit (.bool true)], args := [d1, d2] }
  | _ => none }
def fnExactProgKeptRow : OpenClaim := { program := "ytcdiicckngndcaa", sum := "433f2da5f2f04387cb02d3891eb0a0005898b3dd50b8eaf2c0fd54f7bc219c43", func := "loop.example/fewrelations/laws.FnExactProgKept", spec := "fnExactProgKept", unfollowed := true, recurses := true, apart := false }
def FnExactProgKeptSaid : Prop := fnExactProgKeptRow.holds Try.pinned (OpenSpec.ofChange fnExactProgKeptSpec)

/-- ITS FALSE NEIGHBOUR: 'it returns false'. Refute it at one input. -/
def fnExactProgKeptWrong : ChangeSpec := { name := "fnExactProgKept", fn := fun _ => fun
  | [d1, d2] => { results := [.lit (.bool false)], args := [d1, d2] }
  | _ => none }
def FnExactProgKeptWrongFalsely : Prop := fnExactProgKeptRow.holds Try.pinned (OpenSpec.ofChange fnExactProgKeptWrong)

/-- 'laws.FnExactProgLargest': WHATEVER THE INPUT: true; the input reads as it did. -/
def fnExactProgLargestSpec : ChangeSpec := { name := "fnExactProgLargest", fn := fun _ => fun
  | [d1, d2] => { results := [.lit (.bool true)], args := [d1, d2] }
  | _ => none }
def fnExactProgLargestRow : OpenClaim := { program := "ytcdiicckngndcaa", sum := "433f2da5f2f04387cb02d3891eb0a0005898b3dd50b8eaf2c0fd54f7bc219c43", func := "loop.example/fewrelations/laws.FnExactProgLargest", spec := "fnExactProgLargest", unfollowed := true, recurses := true, apart := false }
def FnExactProgLargestSaid : Prop := fnExactProgLargestRow.holds Try.pinned (OpenSpec.ofChange fnExactProgLargestSpec)

/-- ITS FALSE NEIGHBOUR: 'it returns false'. Refute it at one input. -/
def fnExactProgLargestWrong : ChangeSpec := { name := "fnExactProgLargest", fn := fun _ => fun
  | [d1, d2] => { results := [.lit (.bool false)], args := [d1, d2] }
  | _ => none }
def FnExactProgLargestWrongFalsely : Prop := fnExactProgLargestRow.holds Try.pinned (OpenSpec.ofChange fnExactProgLargestWrong)

/-- 'laws.FnEnds': WHATEVER THE INPUT: true; the input reads as it did. -/
def fnEndsSpec : ChangeSpec := { name := "fnEnds", fn := fun _ => fun
  | [d] => { results := [.lit (.bool true)], args := [d] }
  | _ => none }
def fnEndsRow : OpenClaim := { program := "ytcdiicckngndcaa", sum := "433f2da5f2f04387cb02d3891eb0a0005898b3dd50b8eaf2c0fd54f7bc219c43", func := "loop.example/fewrelations/laws.FnEnds", spec := "fnEnds", unfollowed := true, recurses := true, apart := false }
def FnEndsSaid : Prop := fnEndsRow.holds Try.pinned (OpenSpec.ofChange fnEndsSpec)

/-- ITS FALSE NEIGHBOUR: 'it returns false'. Refute it at one input. -/
def fnEndsWrong : ChangeSpec := { name := "fnEnds", fn := fun _ => fun
  | [d] => { results := [.lit (.bool false)], args := [d] }
  | _ => none }
def FnEndsWrongFalsely : Prop := fnEndsRow.holds Try.pinned (OpenSpec.ofChange fnEndsWrong)

/- THE SECOND FORM. 'bulk': how many values and letters a reading holds, each counted each time it is reached (what is shared counts as often as it is met; a slice's spare places count too). A statement '..UptoSaid' is the law's where the arguments, and the package variables that the reading takes, are together of bulk at most 1048576: NARROWER than '..Said'. Prove '..Said' where nothing that the law and all that it calls make is longer than what came in: it says more and counts as full. Else prove '..UptoSaid'. A law counts once. -/
mutual
def uptoBulk {H : Type} : DataW H → Nat
  | .lit (.string bytes) => bytes.length + 1
  | .lit _ => 1
  | .nil => 1
  | .ptr d => uptoBulk d + 1
  | .slice elems spare => uptoBulkAll elems + uptoBulkAll spare + 1
  | .agg parts => uptoBulkAll parts + 1
  | .iface _ d => uptoBulk d + 1
  | .map entries => uptoBulkEntries entries + 1
  | .held _ => 1
def uptoBulkAll {H : Type} : List (DataW H) → Nat
  | [] => 0
  | d :: r => uptoBulk d + uptoBulkAll r
def uptoBulkEntries {H : Type} : List (Lit × DataW H) → Nat
  | [] => 0
  | x :: r => uptoBulkEntry x + uptoBulkEntries r
def uptoBulkEntry {H : Type} : Lit × DataW H → Nat
  | (.string bytes, d) => bytes.length + uptoBulk d + 1
  | (_, d) => uptoBulk d + 1
 end
def uptoSmall : (H : Type) → List (DataW H) → Bool := fun _ ds => decide (uptoBulkAll ds ≤ 1048576)
def OpenSpec.upto (s : _root_.Go.ChangeSpec) : _root_.Go.OpenSpec := { _root_.Go.OpenSpec.ofChange s with cond := some uptoSmall }

/-- 'laws.FnExactProgAfter', WHERE WHAT IT READS IS OF BULK AT MOST 1048576: true; the input reads as it did. -/
def fnExactProgAfterUptoRow : OpenClaim := { program := "ytcdiicckngndcaa", sum := "433f2da5f2f04387cb02d3891eb0a0005898b3dd50b8eaf2c0fd54f7bc219c43", func := "loop.example/fewrelations/laws.FnExactProgAfter", spec := "fnExactProgAfter", unfollowed := true, recurses := true, apart := false, narrowed := true }
def FnExactProgAfterUptoSaid : Prop := fnExactProgAfterUptoRow.holds Try.pinned (OpenSpec.upto fnExactProgAfterSpec)

/-- 'laws.FnExactProgBefore', WHERE WHAT IT READS IS OF BULK AT MOST 1048576: true; the input reads as it did. -/
def fnExactProgBeforeUptoRow : OpenClaim := { program := "ytcdiicckngndcaa", sum := "433f2da5f2f04387cb02d3891eb0a0005898b3dd50b8eaf2c0fd54f7bc219c43", func := "loop.example/fewrelations/laws.FnExactProgBefore", spec := "fnExactProgBefore", unfollowed := true, recurses := true, apart := false, narrowed := true }
def FnExactProgBeforeUptoSaid : Prop := fnExactProgBeforeUptoRow.holds Try.pinned (OpenSpec.upto fnExactProgBeforeSpec)

/-- 'laws.FnExactProgSurely', WHERE WHAT IT READS IS OF BULK AT MOST 1048576: true; the input reads as it did. -/
def fnExactProgSurelyUptoRow : OpenClaim := { program := "ytcdiicckngndcaa", sum := "433f2da5f2f04387cb02d3891eb0a0005898b3dd50b8eaf2c0fd54f7bc219c43", func := "loop.example/fewrelations/laws.FnExactProgSurely", spec := "fnExactProgSurely", unfollowed := true, recurses := true, apart := false, narrowed := true }
def FnExactProgSurelyUptoSaid : Prop := fnExactProgSurelyUptoRow.holds Try.pinned (OpenSpec.upto fnExactProgSurelySpec)

/-- 'laws.FnExactProgTriple', WHERE WHAT IT READS IS OF BULK AT MOST 1048576: true; the input reads as it did. -/
def fnExactProgTripleUptoRow : OpenClaim := { program := "ytcdiicckngndcaa", sum := "433f2da5f2f04387cb02d3891eb0a0005898b3dd50b8eaf2c0fd54f7bc219c43", func := "loop.example/fewrelations/laws.FnExactProgTriple", spec := "fnExactProgTriple", unfollowed := true, recurses := true, apart := false, narrowed := true }
def FnExactProgTripleUptoSaid : Prop := fnExactProgTripleUptoRow.holds Try.pinned (OpenSpec.upto fnExactProgTripleSpec)

/-- 'laws.FnExactProgIf', WHERE WHAT IT READS IS OF BULK AT MOST 1048576: true; the input reads as it did. -/
def fnExactProgIfUptoRow : OpenClaim := { program := "ytcdiicckngndcaa", sum := "433f2da5f2f04387cb02d3891eb0a0005898b3dd50b8eaf2c0fd54f7bc219c43", func := "loop.example/fewrelations/laws.FnExactProgIf", spec := "fnExactProgIf", unfollowed := true, recurses := true, apart := false, narrowed := true }
def FnExactProgIfUptoSaid : Prop := fnExactProgIfUptoRow.holds Try.pinned (OpenSpec.upto fnExactProgIfSpec)

/-- 'laws.FnExactProgWhile', WHERE WHAT IT READS IS OF BULK AT MOST 1048576: true; the input reads as it did. -/
def fnExactProgWhileUptoRow : OpenClaim := { program := "ytcdiicckngndcaa", sum := "433f2da5f2f04387cb02d3891eb0a0005898b3dd50b8eaf2c0fd54f7bc219c43", func := "loop.example/fewrelations/laws.FnExactProgWhile", spec := "fnExactProgWhile", unfollowed := true, recurses := true, apart := false, narrowed := true }
def FnExactProgWhileUptoSaid : Prop := fnExactProgWhileUptoRow.holds Try.pinned (OpenSpec.upto fnExactProgWhileSpec)

/-- 'laws.FnExactProgEnds', WHERE WHAT IT READS IS OF BULK AT MOST 1048576: true; the input reads as it did. -/
def fnExactProgEndsUptoRow : OpenClaim := { program := "ytcdiicckngndcaa", sum := "433f2da5f2f04387cb02d3891eb0a0005898b3dd50b8eaf2c0fd54f7bc219c43", func := "loop.example/fewrelations/laws.FnExactProgEnds", spec := "fnExactProgEnds", unfollowed := true, recurses := true, apart := false, narrowed := true }
def FnExactProgEndsUptoSaid : Prop := fnExactProgEndsUptoRow.holds Try.pinned (OpenSpec.upto fnExactProgEndsSpec)

/-- 'laws.FnExactProgKept', WHERE WHAT IT READS IS OF BULK AT MOST 1048576: true; the input reads as it did. -/
def fnExactProgKeptUptoRow : OpenClaim := { program := "ytcdiicckngndcaa", sum := "433f2da5f2f04387cb02d3891eb0a0005898b3dd50b8eaf2c0fd54f7bc219c43", func := "loop.example/fewrelations/laws.FnExactProgKept", spec := "fnExactProgKept", unfollowed := true, recurses := true, apart := false, narrowed := true }
def FnExactProgKeptUptoSaid : Prop := fnExactProgKeptUptoRow.holds Try.pinned (OpenSpec.upto fnExactProgKeptSpec)

/-- 'laws.FnExactProgLargest', WHERE WHAT IT READS IS OF BULK AT MOST 1048576: true; the input reads as it did. -/
def fnExactProgLargestUptoRow : OpenClaim := { program := "ytcdiicckngndcaa", sum := "433f2da5f2f04387cb02d3891eb0a0005898b3dd50b8eaf2c0fd54f7bc219c43", func := "loop.example/fewrelations/laws.FnExactProgLargest", spec := "fnExactProgLargest", unfollowed := true, recurses := true, apart := false, narrowed := true }
def FnExactProgLargestUptoSaid : Prop := fnExactProgLargestUptoRow.holds Try.pinned (OpenSpec.upto fnExactProgLargestSpec)

/-- 'laws.FnEnds', WHERE WHAT IT READS IS OF BULK AT MOST 1048576: true; the input reads as it did. -/
def fnEndsUptoRow : OpenClaim := { program := "ytcdiicckngndcaa", sum := "433f2da5f2f04387cb02d3891eb0a0005898b3dd50b8eaf2c0fd54f7bc219c43", func := "loop.example/fewrelations/laws.FnEnds", spec := "fnEnds", unfollowed := true, recurses := true, apart := false, narrowed := true }
def FnEndsUptoSaid : Prop := fnEndsUptoRow.holds Try.pinned (OpenSpec.upto fnEndsSpec)

end Rows
end Go.Proofs.Ytcdiicckngndcaa
