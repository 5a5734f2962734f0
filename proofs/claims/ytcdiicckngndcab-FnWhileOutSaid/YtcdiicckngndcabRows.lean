/-
  No cell of these rows narrows 'for every input' (looked for: loops, veiled, ifaces, maps, wideKeys, modest, calm, conditions, laid).
  DERIVED. THE GIVEN ROWS OF THIS SEAT. 9 by the template 'for every input the law returns true; each argument reads behind the call as it read before'; 0 by the template 'total and deterministic' (their statements: YtcdiicckngndcabTotals.lean).
  GIVEN WITH THE SEED: the statements are not yours to turn. If you find one false, say at which input.
  Laid BY PROGRAM, IN A SANDBOX (cutbox-rows.mjs): the forced cells as the released guide's own fill.sh prints them over the translation 5d0e780a1de6439a… (all of the seat's roots in one cut). By AI agents, Wed Nov 11 2026. No macro, syntax, notation, axiom, sorry.
-/
import Derived.Test.YtcdiicckngndcabChecked
import GoSem.Claim
import GoSem.ClaimJoined
import GoSem.ClaimMapViews
import Derived.JoinedTies
import Derived.KernelRfl
namespace Go.Proofs.Ytcdiicckngndcab
/- THE CELL 'sum', in the pinned program and in every row, IS THE sha256 OF THE DUMP (.gsa) THAT YtcdiicckngndcabProg.lean LOADS. Nothing in Lean hashes anything: it is a label: what it is worth is what the hold of that sum in a sandbox is worth. -/
noncomputable def Try.pinned : Pinned := { name := "ytcdiicckngndcab", sum := "5d0e780a1de6439a55a6e83a8c26c512598d2eb21da81b540a77d7a4dd4ff506", checked := Try.checked }
namespace Rows
def none {H : Type} : Left H := { results := [], args := [] }

/-- 'laws.FnAfter': WHATEVER THE INPUT: true; the input reads as it did. -/
def fnAfterSpec : ChangeSpec := { name := "fnAfter", fn := fun _ => fun
  | [d] => { results := [.lit (.bool true)], args := [d] }
  | _ => none }
def fnAfterRow : OpenClaim := { program := "ytcdiicckngndcab", sum := "5d0e780a1de6439a55a6e83a8c26c512598d2eb21da81b540a77d7a4dd4ff506", func := "loop.example/fewrelations/laws.FnAfter", spec := "fnAfter", unfollowed := true, recurses := true, apart := false }
def FnAfterSaid : Prop := fnAfterRow.holds Try.pinned (OpenSpec.ofChange fnAfterSpec)

/-- ITS FALSE NEIGHBOUR: 'it returns false'. Refute it at one input. -/
def fnAfterWrong : ChangeSpec := { name := "fnAfter", fn := fun _ => fun
  | [d] => { results := [.lit (.bool false)], args := [d] }
  | _ => none }
def FnAfterWrongFalsely : Prop := fnAfterRow.holds Try.pinned (OpenSpec.ofChange fnAfterWrong)

/-- 'laws.FnBefore': WHATEVER THE INPUT: true; the input reads as it did. -/
def fnBeforeSpec : ChangeSpec := { name := "fnBefore", fn := fun _ => fun
  | [d] => { results := [.lit (.bool true)], args := [d] }
  | _ => none }
def fnBeforeRow : OpenClaim := { program := "ytcdiicckngndcab", sum := "5d0e780a1de6439a55a6e83a8c26c512598d2eb21da81b540a77d7a4dd4ff506", func := "loop.example/fewrelations/laws.FnBefore", spec := "fnBefore", unfollowed := true, recurses := true, apart := false }
def FnBeforeSaid : Prop := fnBeforeRow.holds Try.pinned (OpenSpec.ofChange fnBeforeSpec)

/-- ITS FALSE NEIGHBOUR: 'it returns false'. Refute it at one input. -/
def fnBeforeWrong : ChangeSpec := { name := "fnBefore", fn := fun _ => fun
  | [d] => { results := [.lit (.bool false)], args := [d] }
  | _ => none }
def FnBeforeWrongFalsely : Prop := fnBeforeRow.holds Try.pinned (OpenSpec.ofChange fnBeforeWrong)

/-- 'laws.FnSurely': WHATEVER THE INPUT: true; the input reads as it did. -/
def fnSurelySpec : ChangeSpec := { name := "fnSurely", fn := fun _ => fun
  | [d] => { results := [.lit (.bool true)], args := [d] }
  | _ => none }
def fnSurelyRow : OpenClaim := { program := "ytcdiicckngndcab", sum := "5d0e780a1de6439a55a6e83a8c26c512598d2eb21da81b540a77d7a4dd4ff506", func := "loop.example/fewrelations/laws.FnSurely", spec := "fnSurely", unfollowed := true, recurses := true, apart := false }
def FnSurelySaid : Prop := fnSurelyRow.holds Try.pinned (OpenSpec.ofChange fnSurelySpec)

/-- ITS FALSE NEIGHBOUR: 'it returns false'. Refute it at one input. -/
def fnSurelyWrong : ChangeSpec := { name := "fnSurely", fn := fun _ => fun
  | [d] => { results := [.lit (.bool false)], args := [d] }
  | _ => none }
def FnSurelyWrongFalsely : Prop := fnSurelyRow.holds Try.pinned (OpenSpec.ofChange fnSurelyWrong)

/-- 'laws.FnTriple': WHATEVER THE INPUT: true; the input reads as it did. -/
def fnTripleSpec : ChangeSpec := { name := "fnTriple", fn := fun _ => fun
  | [d] => { results := [.lit (.bool true)], args := [d] }
  | _ => none }
def fnTripleRow : OpenClaim := { program := "ytcdiicckngndcab", sum := "5d0e780a1de6439a55a6e83a8c26c512598d2eb21da81b540a77d7a4dd4ff506", func := "loop.example/fewrelations/laws.FnTriple", spec := "fnTriple", unfollowed := true, recurses := true, apart := false }
def FnTripleSaid : Prop := fnTripleRow.holds Try.pinned (OpenSpec.ofChange fnTripleSpec)

/-- ITS FALSE NEIGHBOUR: 'it returns false'. Refute it at one input. -/
def fnTripleWrong : ChangeSpec := { name := "fnTriple", fn := fun _ => fun
  | [d] => { results := [.lit (.bool false)], args := [d] }
  | _ => none }
def FnTripleWrongFalsely : Prop := fnTripleRow.holds Try.pinned (OpenSpec.ofChange fnTripleWrong)

/-- 'laws.FnIf': WHATEVER THE INPUT: true; the input reads as it did. -/
def fnIfSpec : ChangeSpec := { name := "fnIf", fn := fun _ => fun
  | [d] => { results := [.lit (.bool true)], args := [d] }
  | _ => none }
def fnIfRow : OpenClaim := { program := "ytcdiicckngndcab", sum := "5d0e780a1de6439a55a6e83a8c26c512598d2eb21da81b540a77d7a4dd4ff506", func := "loop.example/fewrelations/laws.FnIf", spec := "fnIf", unfollowed := true, recurses := true, apart := false }
def FnIfSaid : Prop := fnIfRow.holds Try.pinned (OpenSpec.ofChange fnIfSpec)

/-- ITS FALSE NEIGHBOUR: 'it returns false'. Refute it at one input. -/
def fnIfWrong : ChangeSpec := { name := "fnIf", fn := fun _ => fun
  | [d] => { results := [.lit (.bool false)], args := [d] }
  | _ => none }
def FnIfWrongFalsely : Prop := fnIfRow.holds Try.pinned (OpenSpec.ofChange fnIfWrong)

/-- 'laws.FnWhile': WHATEVER THE INPUT: true; the input reads as it did. -/
def fnWhileSpec : ChangeSpec := { name := "fnWhile", fn := fun _ => fun
  | [d] => { results := [.lit (.bool true)], args := [d] }
  | _ => none }
def fnWhileRow : OpenClaim := { program := "ytcdiicckngndcab", sum := "5d0e780a1de6439a55a6e83a8c26c512598d2eb21da81b540a77d7a4dd4ff506", func := "loop.example/fewrelations/laws.FnWhile", spec := "fnWhile", unfollowed := true, recurses := true, apart := false }
def FnWhileSaid : Prop := fnWhileRow.holds Try.pinned (OpenSpec.ofChange fnWhileSpec)

/-- ITS FALSE NEIGHBOUR: 'it returns false'. Refute it at one input. -/
def fnWhileWrong : ChangeSpec := { name := "fnWhile", fn := fun _ => fun
  | [d] => { results := [.lit (.bool false)], args := [d] }
  | _ => none }
def FnWhileWrongFalsely : Prop := fnWhileRow.holds Try.pinned (OpenSpec.ofChange fnWhileWrong)

/-- 'laws.FnWhileOut': WHATEVER THE INPUT: true; the input reads as it did. -/
def fnWhileOutSpec : ChangeSpec := { name := "fnWhileOut", fn := fun _ => fun
  | [d] => { results := [.lit (.bool true)], args := [d] }
  | _ => none }
def fnWhileOutRow : OpenClaim := { program := "ytcdiicckngndcab", sum := "5d0e780a1de6439a55a6e83a8c26c512598d2eb21da81b540a77d7a4dd4ff506", func := "loop.example/fewrelations/laws.FnWhileOut", spec := "fnWhileOut", unfollowed := true, recurses := true, apart := false }
def FnWhileOutSaid : Prop := fnWhileOutRow.holds Try.pinned (OpenSpec.ofChange fnWhileOutSpec)

/-- ITS FALSE NEIGHBOUR: 'it returns false'. Refute it at one input. -/
def fnWhileOutWrong : ChangeSpec := { name := "fnWhileOut", fn := fun _ => fun
  | [d] => { results := [.lit (.bool false)], args := [d] }
  | _ => none }
def FnWhileOutWrongFalsely : Prop := fnWhileOutRow.holds Try.pinned (OpenSpec.ofChange fnWhileOutWrong)

/-- 'laws.FnProgKept': WHATEVER THE INPUT: true; the input reads as it did. -/
def fnProgKeptSpec : ChangeSpec := { name := "fnProgKept", fn := fun _ => fun
  | [d] => { results := [.lit (.bool true)], args := [d] }
  | _ => none }
def fnProgKeptRow : OpenClaim := { program := "ytcdiicckngndcab", sum := "5d0e780a1de6439a55a6e83a8c26c512598d2eb21da81b540a77d7a4dd4ff506", func := "loop.example/fewrelations/laws.FnProgKept", spec := "fnProgKept", unfollowed := true, recurses := true, apart := false }
def FnProgKeptSaid : Prop := fnProgKeptRow.holds Try.pinned (OpenSpec.ofChange fnProgKeptSpec)

/-- ITS FALSE NEIGHBOUR: 'it returns false'. Refute it at one input. -/
def fnProgKeptWrong : ChangeSpec := { name := "fnProgKept", fn := fun _ => fun
  | [d] => { results := [.lit (.bool false)], args := [d] }
  | _ => none }
def FnProgKeptWrongFalsely : Prop := fnProgKeptRow.holds Try.pinned (OpenSpec.ofChange fnProgKeptWrong)

/-- 'laws.FnLargest': WHATEVER THE INPUT: true; the input reads as it did. -/
def fnLargestSpec : ChangeSpec := { name := "fnLargest", fn := fun _ => fun
  | [d] => { results := [.lit (.bool true)], args := [d] }
  | _ => none }
def fnLargestRow : OpenClaim := { program := "ytcdiicckngndcab", sum := "5d0e780a1de6439a55a6e83a8c26c512598d2eb21da81b540a77d7a4dd4ff506", func := "loop.example/fewrelations/laws.FnLargest", spec := "fnLargest", unfollowed := true, recurses := true, apart := false }
def FnLargestSaid : Prop := fnLargestRow.holds Try.pinned (OpenSpec.ofChange fnLargestSpec)

/-- ITS FALSE NEIGHBOUR: 'it returns false'. Refute it at one input. -/
def fnLargestWrong : ChangeSpec := { name := "fnLargest", fn := fun _ => fun
  | [d] => { results := [.lit (.bool false)], args := [d] }
  | _ => none }
def FnLargestWrongFalsely : Prop := fnLargestRow.holds Try.pinned (OpenSpec.ofChange fnLargestWrong)

/- THE SECOND FORM. 'bulk': how many values and letters a reading holds, each counted each time it is reached (what is shared counts as often as it is met; a slice's spare places count too). A statement '..UptoSaid' is the law's where the arguments, and the package variables that the reading takes, are together of bulk at most 1048576: NARROWER than '..Said'. Prove '..Said' where nothing that the law and all that it calls make is longer than what came in: it says more and counts as full. Else prove '..UptoSaid'. A law counts once. -/
mutual
def uptoBulk {H : Type} : DataW H → Nat
  | .lit (.string bytes) => bytes.length + 1
  | .lit _ => 1
  | .nil => 1
  | .ptr d => uptoBulk d + 1
  | .slice elems spare => uptoBulkAll elems + uptoBulkAll spare + 1
  | .agg parts => uptoBulkAll parts + 1
  | .iface _ d => uptoBulk d + 1
  | .map entries => uptoBulkEntries entries + 1
  | .held _ => 1
def uptoBulkAll {H : Type} : List (DataW H) → Nat
  | [] => 0
  | d :: r => uptoBulk d + uptoBulkAll r
def uptoBulkEntries {H : Type} : List (Lit × DataW H) → Nat
  | [] => 0
  | x :: r => uptoBulkEntry x + uptoBulkEntries r
def uptoBulkEntry {H : Type} : Lit × DataW H → Nat
  | (.string bytes, d) => bytes.length + uptoBulk d + 1
  | (_, d) => uptoBulk d + 1
 end
def uptoSmall : (H : Type) → List (DataW H) → Bool := fun _ ds => decide (uptoBulkAll ds ≤ 1048576)
def OpenSpec.upto (s : _root_.Go.ChangeSpec) : _root_.Go.OpenSpec := { _root_.Go.OpenSpec.ofChange s with cond := some uptoSmall }

/-- 'laws.FnAfter', WHERE WHAT IT READS IS OF BULK AT MOST 1048576: true; the input reads as it did. -/
def fnAfterUptoRow : OpenClaim := { program := "ytcdiicckngndcab", sum := "5d0e780a1de6439a55a6e83a8c26c512598d2eb21da81b540a77d7a4dd4ff506", func := "loop.example/fewrelations/laws.FnAfter", spec := "fnAfter", unfollowed := true, recurses := true, apart := false, narrowed := true }
def FnAfterUptoSaid : Prop := fnAfterUptoRow.holds Try.pinned (OpenSpec.upto fnAfterSpec)

/-- 'laws.FnBefore', WHERE WHAT IT READS IS OF BULK AT MOST 1048576: true; the input reads as it did. -/
def fnBeforeUptoRow : OpenClaim := { program := "ytcdiicckngndcab", sum := "5d0e780a1de6439a55a6e83a8c26c512598d2eb21da81b540a77d7a4dd4ff506", func := "loop.example/fewrelations/laws.FnBefore", spec := "fnBefore", unfollowed := true, recurses := true, apart := false, narrowed := true }
def FnBeforeUptoSaid : Prop := fnBeforeUptoRow.holds Try.pinned (OpenSpec.upto fnBeforeSpec)

/-- 'laws.FnSurely', WHERE WHAT IT READS IS OF BULK AT MOST 1048576: true; the input reads as it did. -/
def fnSurelyUptoRow : OpenClaim := { program := "ytcdiicckngndcab", sum := "5d0e780a1de6439a55a6e83a8c26c512598d2eb21da81b540a77d7a4dd4ff506", func := "loop.example/fewrelations/laws.FnSurely", spec := "fnSurely", unfollowed := true, recurses := true, apart := false, narrowed := true }
def FnSurelyUptoSaid : Prop := fnSurelyUptoRow.holds Try.pinned (OpenSpec.upto fnSurelySpec)

/-- 'laws.FnTriple', WHERE WHAT IT READS IS OF BULK AT MOST 1048576: true; the input reads as it did. -/
def fnTripleUptoRow : OpenClaim := { program := "ytcdiicckngndcab", sum := "5d0e780a1de6439a55a6e83a8c26c512598d2eb21da81b540a77d7a4dd4ff506", func := "loop.example/fewrelations/laws.FnTriple", spec := "fnTriple", unfollowed := true, recurses := true, apart := false, narrowed := true }
def FnTripleUptoSaid : Prop := fnTripleUptoRow.holds Try.pinned (OpenSpec.upto fnTripleSpec)

/-- 'laws.FnIf', WHERE WHAT IT READS IS OF BULK AT MOST 1048576: true; the input reads as it did. -/
def fnIfUptoRow : OpenClaim := { program := "ytcdiicckngndcab", sum := "5d0e780a1de6439a55a6e83a8c26c512598d2eb21da81b540a77d7a4dd4ff506", func := "loop.example/fewrelations/laws.FnIf", spec := "fnIf", unfollowed := true, recurses := true, apart := false, narrowed := true }
def FnIfUptoSaid : Prop := fnIfUptoRow.holds Try.pinned (OpenSpec.upto fnIfSpec)

/-- 'laws.FnWhile', WHERE WHAT IT READS IS OF BULK AT MOST 1048576: true; the input reads as it did. -/
def fnWhileUptoRow : OpenClaim := { program := "ytcdiicckngndcab", sum := "5d0e780a1de6439a55a6e83a8c26c512598d2eb21da81b540a77d7a4dd4ff506", func := "loop.example/fewrelations/laws.FnWhile", spec := "fnWhile", unfollowed := true, recurses := true, apart := false, narrowed := true }
def FnWhileUptoSaid : Prop := fnWhileUptoRow.holds Try.pinned (OpenSpec.upto fnWhileSpec)

/-- 'laws.FnWhileOut', WHERE WHAT IT READS IS OF BULK AT MOST 1048576: true; the input reads as it did. -/
def fnWhileOutUptoRow : OpenClaim := { program := "ytcdiicckngndcab", sum := "5d0e780a1de6439a55a6e83a8c26c512598d2eb21da81b540a77d7a4dd4ff506", func := "loop.example/fewrelations/laws.FnWhileOut", spec := "fnWhileOut", unfollowed := true, recurses := true, apart := false, narrowed := true }
def FnWhileOutUptoSaid : Prop := fnWhileOutUptoRow.holds Try.pinned (OpenSpec.upto fnWhileOutSpec)

/-- 'laws.FnProgKept', WHERE WHAT IT READS IS OF BULK AT MOST 1048576: true; the input reads as it did. -/
def fnProgKeptUptoRow : OpenClaim := { program := "ytcdiicckngndcab", sum := "5d0e780a1de6439a55a6e83a8c26c512598d2eb21da81b540a77d7a4dd4ff506", func := "loop.example/fewrelations/laws.FnProgKept", spec := "fnProgKept", unfollowed := true, recurses := true, apart := false, narrowed := true }
def FnProgKeptUptoSaid : Prop := fnProgKeptUptoRow.holds Try.pinned (OpenSpec.upto fnProgKeptSpec)

/-- 'laws.FnLargest', WHERE WHAT IT READS IS OF BULK AT MOST 1048576: true; the input reads as it did. -/
def fnLargestUptoRow : OpenClaim := { program := "ytcdiicckngndcab", sum := "5d0e780a1de6439a55a6e83a8c26c512598d2eb21da81b540a77d7a4dd4ff506", func := "loop.example/fewrelations/laws.FnLargest", spec := "fnLargest", unfollowed := true, recurses := true, apart := false, narrowed := true }
def FnLargestUptoSaid : Prop := fnLargestUptoRow.holds Try.pinned (OpenSpec.upto fnLargestSpec)

end Rows
end Go.Proofs.Ytcdiicckngndcab
