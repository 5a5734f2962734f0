/-
  No cell of these rows narrows 'for every input' (looked for: loops, veiled, ifaces, maps, wideKeys, modest, calm, conditions, laid).
  DERIVED. THE GIVEN ROWS OF THIS SEAT. 8 by the template 'for every input the law returns true; each argument reads behind the call as it read before'; 0 by the template 'total and deterministic' (their statements: YtpcbmijencboiaaTotals.lean).
  GIVEN WITH THE SEED: the statements are not yours to turn. If you find one false, say at which input.
  Laid BY PROGRAM, IN A SANDBOX (cutbox-rows.mjs): the forced cells as the released guide's own fill.sh prints them over the translation cc42ca5bfb381952… (all of the seat's roots in one cut). By AI agents, Wed Nov 11 2026. No macro, syntax, notation, axiom, sorry.
-/
import Derived.Test.YtpcbmijencboiaaChecked
import GoSem.Claim
import GoSem.ClaimJoined
import GoSem.ClaimMapViews
import Derived.JoinedTies
import Derived.KernelRfl
namespace Go.Proofs.Ytpcbmijencboiaa
/- THE CELL 'sum', in the pinned program and in every row, IS THE sha256 OF THE DUMP (.gsa) THAT YtpcbmijencboiaaProg.lean LOADS. Nothing in Lean hashes anything: it is a label: what it is worth is what the hold of that sum in a sandbox is worth. -/
noncomputable def Try.pinned : Pinned := { name := "ytpcbmijencboiaa", sum := "cc42ca5bfb381952f27aaffba662e2cde717de4baa412e73dc1ca1e52dda4ea9", checked := Try.checked }
namespace Rows
def none {H : Type} : Left H := { results := [], args := [] }

/-- 'laws.FnExactKindIn': WHATEVER THE INPUT: true; the input reads as it did. -/
def fnExactKindInSpec : ChangeSpec := { name := "fnExactKindIn", fn := fun _ => fun
  | [d1, d2] => { results := [.lit (.bool true)], args := [d1, d2] }
  | _ => none }
def fnExactKindInRow : OpenClaim := { program := "ytpcbmijencboiaa", sum := "cc42ca5bfb381952f27aaffba662e2cde717de4baa412e73dc1ca1e52dda4ea9", func := "loop.example/fewrelations/laws.FnExactKindIn", spec := "fnExactKindIn", inPlace := ["internal/bytealg.IndexByteString"], unfollowed := true, recurses := true, apart := false }
def FnExactKindInSaid : Prop := fnExactKindInRow.holds Try.pinned (OpenSpec.ofChange fnExactKindInSpec)

/-- ITS FALSE NEIGHBOUR: 'it returns false'. Refute it at one input. -/
def fnExactKindInWrong : ChangeSpec := { name := "fnExactKindIn", fn := fun _ => fun
  | [d1, d2] => { results := [.lit (.bool false)], args := [d1, d2] }
  | _ => none }
def FnExactKindInWrongFalsely : Prop := fnExactKindInRow.holds Try.pinned (OpenSpec.ofChange fnExactKindInWrong)

/-- 'laws.FnExactKindAll': WHATEVER THE INPUT: true; the input reads as it did. -/
def fnExactKindAllSpec : ChangeSpec := { name := "fnExactKindAll", fn := fun _ => fun
  | [d] => { results := [.lit (.bool true)], args := [d] }
  | _ => none }
def fnExactKindAllRow : OpenClaim := { program := "ytpcbmijencboiaa", sum := "cc42ca5bfb381952f27aaffba662e2cde717de4baa412e73dc1ca1e52dda4ea9", func := "loop.example/fewrelations/laws.FnExactKindAll", spec := "fnExactKindAll", unfollowed := true, recurses := true, apart := false }
def FnExactKindAllSaid : Prop := fnExactKindAllRow.holds Try.pinned (OpenSpec.ofChange fnExactKindAllSpec)

/-- ITS FALSE NEIGHBOUR: 'it returns false'. Refute it at one input. -/
def fnExactKindAllWrong : ChangeSpec := { name := "fnExactKindAll", fn := fun _ => fun
  | [d] => { results := [.lit (.bool false)], args := [d] }
  | _ => none }
def FnExactKindAllWrongFalsely : Prop := fnExactKindAllRow.holds Try.pinned (OpenSpec.ofChange fnExactKindAllWrong)

/-- 'laws.FnExactKindCount': WHATEVER THE INPUT: true; the input reads as it did. -/
def fnExactKindCountSpec : ChangeSpec := { name := "fnExactKindCount", fn := fun _ => fun
  | [d1, d2] => { results := [.lit (.bool true)], args := [d1, d2] }
  | _ => none }
def fnExactKindCountRow : OpenClaim := { program := "ytpcbmijencboiaa", sum := "cc42ca5bfb381952f27aaffba662e2cde717de4baa412e73dc1ca1e52dda4ea9", func := "loop.example/fewrelations/laws.FnExactKindCount", spec := "fnExactKindCount", inPlace := ["internal/bytealg.IndexByteString"], unfollowed := true, recurses := true, apart := false }
def FnExactKindCountSaid : Prop := fnExactKindCountRow.holds Try.pinned (OpenSpec.ofChange fnExactKindCountSpec)

/-- ITS FALSE NEIGHBOUR: 'it returns false'. Refute it at one input. -/
def fnExactKindCountWrong : ChangeSpec := { name := "fnExactKindCount", fn := fun _ => fun
  | [d1, d2] => { results := [.lit (.bool false)], args := [d1, d2] }
  | _ => none }
def FnExactKindCountWrongFalsely : Prop := fnExactKindCountRow.holds Try.pinned (OpenSpec.ofChange fnExactKindCountWrong)

/-- 'laws.FnExactKindLeast': WHATEVER THE INPUT: true; the input reads as it did. -/
def fnExactKindLeastSpec : ChangeSpec := { name := "fnExactKindLeast", fn := fun _ => fun
  | [d1, d2] => { results := [.lit (.bool true)], args := [d1, d2] }
  | _ => none }
def fnExactKindLeastRow : OpenClaim := { program := "ytpcbmijencboiaa", sum := "cc42ca5bfb381952f27aaffba662e2cde717de4baa412e73dc1ca1e52dda4ea9", func := "loop.example/fewrelations/laws.FnExactKindLeast", spec := "fnExactKindLeast", inPlace := ["internal/bytealg.IndexByteString"], unfollowed := true, recurses := true, apart := false }
def FnExactKindLeastSaid : Prop := fnExactKindLeastRow.holds Try.pinned (OpenSpec.ofChange fnExactKindLeastSpec)

/-- ITS FALSE NEIGHBOUR: 'it returns false'. Refute it at one input. -/
def fnExactKindLeastWrong : ChangeSpec := { name := "fnExactKindLeast", fn := fun _ => fun
  | [d1, d2] => { results := [.lit (.bool false)], args := [d1, d2] }
  | _ => none }
def FnExactKindLeastWrongFalsely : Prop := fnExactKindLeastRow.holds Try.pinned (OpenSpec.ofChange fnExactKindLeastWrong)

/-- 'laws.FnExactKindMost': WHATEVER THE INPUT: true; the input reads as it did. -/
def fnExactKindMostSpec : ChangeSpec := { name := "fnExactKindMost", fn := fun _ => fun
  | [d1, d2] => { results := [.lit (.bool true)], args := [d1, d2] }
  | _ => none }
def fnExactKindMostRow : OpenClaim := { program := "ytpcbmijencboiaa", sum := "cc42ca5bfb381952f27aaffba662e2cde717de4baa412e73dc1ca1e52dda4ea9", func := "loop.example/fewrelations/laws.FnExactKindMost", spec := "fnExactKindMost", inPlace := ["internal/bytealg.IndexByteString"], unfollowed := true, recurses := true, apart := false }
def FnExactKindMostSaid : Prop := fnExactKindMostRow.holds Try.pinned (OpenSpec.ofChange fnExactKindMostSpec)

/-- ITS FALSE NEIGHBOUR: 'it returns false'. Refute it at one input. -/
def fnExactKindMostWrong : ChangeSpec := { name := "fnExactKindMost", fn := fun _ => fun
  | [d1, d2] => { results := [.lit (.bool false)], args := [d1, d2] }
  | _ => none }
def FnExactKindMostWrongFalsely : Prop := fnExactKindMostRow.holds Try.pinned (OpenSpec.ofChange fnExactKindMostWrong)

/-- 'laws.FnExactKindMap': WHATEVER THE INPUT: true; the input reads as it did. -/
def fnExactKindMapSpec : ChangeSpec := { name := "fnExactKindMap", fn := fun _ => fun
  | [d] => { results := [.lit (.bool true)], args := [d] }
  | _ => none }
def fnExactKindMapRow : OpenClaim := { program := "ytpcbmijencboiaa", sum := "cc42ca5bfb381952f27aaffba662e2cde717de4baa412e73dc1ca1e52dda4ea9", func := "loop.example/fewrelations/laws.FnExactKindMap", spec := "fnExactKindMap", inPlace := ["internal/bytealg.IndexByteString"], unfollowed := true, recurses := true, apart := false }
def FnExactKindMapSaid : Prop := fnExactKindMapRow.holds Try.pinned (OpenSpec.ofChange fnExactKindMapSpec)

/-- ITS FALSE NEIGHBOUR: 'it returns false'. Refute it at one input. -/
def fnExactKindMapWrong : ChangeSpec := { name := "fnExactKindMap", fn := fun _ => fun
  | [d] => { results := [.lit (.bool false)], args := [d] }
  | _ => none }
def FnExactKindMapWrongFalsely : Prop := fnExactKindMapRow.holds Try.pinned (OpenSpec.ofChange fnExactKindMapWrong)

/-- 'laws.FnExactKindOfMap': WHATEVER THE INPUT: true; the input reads as it did. -/
def fnExactKindOfMapSpec : ChangeSpec := { name := "fnExactKindOfMap", fn := fun _ => fun
  | [d] => { results := [.lit (.bool true)], args := [d] }
  | _ => none }
def fnExactKindOfMapRow : OpenClaim := { program := "ytpcbmijencboiaa", sum := "cc42ca5bfb381952f27aaffba662e2cde717de4baa412e73dc1ca1e52dda4ea9", func := "loop.example/fewrelations/laws.FnExactKindOfMap", spec := "fnExactKindOfMap", apart := false }
def FnExactKindOfMapSaid : Prop := fnExactKindOfMapRow.holds Try.pinned (OpenSpec.ofChange fnExactKindOfMapSpec)

/-- ITS FALSE NEIGHBOUR: 'it returns false'. Refute it at one input. -/
def fnExactKindOfMapWrong : ChangeSpec := { name := "fnExactKindOfMap", fn := fun _ => fun
  | [d] => { results := [.lit (.bool false)], args := [d] }
  | _ => none }
def FnExactKindOfMapWrongFalsely : Prop := fnExactKindOfMapRow.holds Try.pinned (OpenSpec.ofChange fnExactKindOfMapWrong)

/-- 'laws.FnExactKindSplit': WHATEVER THE INPUT: true; the input reads as it did. -/
def fnExactKindSplitSpec : ChangeSpec := { name := "fnExactKindSplit", fn := fun _ => fun
  | [d] => { results := [.lit (.bool true)], args := [d] }
  | _ => none }
def fnExactKindSplitRow : OpenClaim := { program := "ytpcbmijencboiaa", sum := "cc42ca5bfb381952f27aaffba662e2cde717de4baa412e73dc1ca1e52dda4ea9", func := "loop.example/fewrelations/laws.FnExactKindSplit", spec := "fnExactKindSplit", unfollowed := true, recurses := true, apart := false }
def FnExactKindSplitSaid : Prop := fnExactKindSplitRow.holds Try.pinned (OpenSpec.ofChange fnExactKindSplitSpec)

/-- ITS FALSE NEIGHBOUR: 'it returns false'. Refute it at one input. -/
def fnExactKindSplitWrong : ChangeSpec := { name := "fnExactKindSplit", fn := fun _ => fun
  | [d] => { results := [.lit (.bool false)], args := [d] }
  | _ => none }
def FnExactKindSplitWrongFalsely : Prop := fnExactKindSplitRow.holds Try.pinned (OpenSpec.ofChange fnExactKindSplitWrong)

/- THE SECOND FORM. 'bulk': how many values and letters a reading holds, each counted each time it is reached (what is shared counts as often as it is met; a slice's spare places count too). A statement '..UptoSaid' is the law's where the arguments, and the package variables that the reading takes, are together of bulk at most 1048576: NARROWER than '..Said'. Prove '..Said' where nothing that the law and all that it calls make is longer than what came in: it says more and counts as full. Else prove '..UptoSaid'. A law counts once. -/
mutual
def uptoBulk {H : Type} : DataW H → Nat
  | .lit (.string bytes) => bytes.length + 1
  | .lit _ => 1
  | .nil => 1
  | .ptr d => uptoBulk d + 1
  | .slice elems spare => uptoBulkAll elems + uptoBulkAll spare + 1
  | .agg parts => uptoBulkAll parts + 1
  | .iface _ d => uptoBulk d + 1
  | .map entries => uptoBulkEntries entries + 1
  | .held _ => 1
def uptoBulkAll {H : Type} : List (DataW H) → Nat
  | [] => 0
  | d :: r => uptoBulk d + uptoBulkAll r
def uptoBulkEntries {H : Type} : List (Lit × DataW H) → Nat
  | [] => 0
  | x :: r => uptoBulkEntry x + uptoBulkEntries r
def uptoBulkEntry {H : Type} : Lit × DataW H → Nat
  | (.string bytes, d) => bytes.length + uptoBulk d + 1
  | (_, d) => uptoBulk d + 1
 end
def uptoSmall : (H : Type) → List (DataW H) → Bool := fun _ ds => decide (uptoBulkAll ds ≤ 1048576)
def OpenSpec.upto (s : _root_.Go.ChangeSpec) : _root_.Go.OpenSpec := { _root_.Go.OpenSpec.ofChange s with cond := some uptoSmall }

/-- 'laws.FnExactKindIn', WHERE WHAT IT READS IS OF BULK AT MOST 1048576: true; the input reads as it did. -/
def fnExactKindInUptoRow : OpenClaim := { program := "ytpcbmijencboiaa", sum := "cc42ca5bfb381952f27aaffba662e2cde717de4baa412e73dc1ca1e52dda4ea9", func := "loop.example/fewrelations/laws.FnExactKindIn", spec := "fnExactKindIn", inPlace := ["internal/bytealg.IndexByteString"], unfollowed := true, recurses := true, apart := false, narrowed := true }
def FnExactKindInUptoSaid : Prop := fnExactKindInUptoRow.holds Try.pinned (OpenSpec.upto fnExactKindInSpec)

/-- 'laws.FnExactKindAll', WHERE WHAT IT READS IS OF BULK AT MOST 1048576: true; the input reads as it did. -/
def fnExactKindAllUptoRow : OpenClaim := { program := "ytpcbmijencboiaa", sum := "cc42ca5bfb381952f27aaffba662e2cde717de4baa412e73dc1ca1e52dda4ea9", func := "loop.example/fewrelations/laws.FnExactKindAll", spec := "fnExactKindAll", unfollowed := true, recurses := true, apart := false, narrowed := true }
def FnExactKindAllUptoSaid : Prop := fnExactKindAllUptoRow.holds Try.pinned (OpenSpec.upto fnExactKindAllSpec)

/-- 'laws.FnExactKindCount', WHERE WHAT IT READS IS OF BULK AT MOST 1048576: true; the input reads as it did. -/
def fnExactKindCountUptoRow : OpenClaim := { program := "ytpcbmijencboiaa", sum := "cc42ca5bfb381952f27aaffba662e2cde717de4baa412e73dc1ca1e52dda4ea9", func := "loop.example/fewrelations/laws.FnExactKindCount", spec := "fnExactKindCount", inPlace := ["internal/bytealg.IndexByteString"], unfollowed := true, recurses := true, apart := false, narrowed := true }
def FnExactKindCountUptoSaid : Prop := fnExactKindCountUptoRow.holds Try.pinned (OpenSpec.upto fnExactKindCountSpec)

/-- 'laws.FnExactKindLeast', WHERE WHAT IT READS IS OF BULK AT MOST 1048576: true; the input reads as it did. -/
def fnExactKindLeastUptoRow : OpenClaim := { program := "ytpcbmijencboiaa", sum := "cc42ca5bfb381952f27aaffba662e2cde717de4baa412e73dc1ca1e52dda4ea9", func := "loop.example/fewrelations/laws.FnExactKindLeast", spec := "fnExactKindLeast", inPlace := ["internal/bytealg.IndexByteString"], unfollowed := true, recurses := true, apart := false, narrowed := true }
def FnExactKindLeastUptoSaid : Prop := fnExactKindLeastUptoRow.holds Try.pinned (OpenSpec.upto fnExactKindLeastSpec)

/-- 'laws.FnExactKindMost', WHERE WHAT IT READS IS OF BULK AT MOST 1048576: true; the input reads as it did. -/
def fnExactKindMostUptoRow : OpenClaim := { program := "ytpcbmijencboiaa", sum := "cc42ca5bfb381952f27aaffba662e2cde717de4baa412e73dc1ca1e52dda4ea9", func := "loop.example/fewrelations/laws.FnExactKindMost", spec := "fnExactKindMost", inPlace := ["internal/bytealg.IndexByteString"], unfollowed := true, recurses := true, apart := false, narrowed := true }
def FnExactKindMostUptoSaid : Prop := fnExactKindMostUptoRow.holds Try.pinned (OpenSpec.upto fnExactKindMostSpec)

/-- 'laws.FnExactKindMap', WHERE WHAT IT READS IS OF BULK AT MOST 1048576: true; the input reads as it did. -/
def fnExactKindMapUptoRow : OpenClaim := { program := "ytpcbmijencboiaa", sum := "cc42ca5bfb381952f27aaffba662e2cde717de4baa412e73dc1ca1e52dda4ea9", func := "loop.example/fewrelations/laws.FnExactKindMap", spec := "fnExactKindMap", inPlace := ["internal/bytealg.IndexByteString"], unfollowed := true, recurses := true, apart := false, narrowed := true }
def FnExactKindMapUptoSaid : Prop := fnExactKindMapUptoRow.holds Try.pinned (OpenSpec.upto fnExactKindMapSpec)

/-- 'laws.FnExactKindOfMap', WHERE WHAT IT READS IS OF BULK AT MOST 1048576: true; the input reads as it did. -/
def fnExactKindOfMapUptoRow : OpenClaim := { program := "ytpcbmijencboiaa", sum := "cc42ca5bfb381952f27aaffba662e2cde717de4baa412e73dc1ca1e52dda4ea9", func := "loop.example/fewrelations/laws.FnExactKindOfMap", spec := "fnExactKindOfMap", apart := false, narrowed := true }
def FnExactKindOfMapUptoSaid : Prop := fnExactKindOfMapUptoRow.holds Try.pinned (OpenSpec.upto fnExactKindOfMapSpec)

/-- 'laws.FnExactKindSplit', WHERE WHAT IT READS IS OF BULK AT MOST 1048576: true; the input reads as it did. -/
def fnExactKindSplitUptoRow : OpenClaim := { program := "ytpcbmijencboiaa", sum := "cc42ca5bfb381952f27aaffba662e2cde717de4baa412e73dc1ca1e52dda4ea9", func := "loop.example/fewrelations/laws.FnExactKindSplit", spec := "fnExactKindSplit", unfollowed := true, recurses := true, apart := false, narrowed := true }
def FnExactKindSplitUptoSaid : Prop := fnExactKindSplitUptoRow.holds Try.pinned (OpenSpec.upto fnExactKindSplitSpec)

end Rows
end Go.Proofs.Ytpcbmijencboiaa
