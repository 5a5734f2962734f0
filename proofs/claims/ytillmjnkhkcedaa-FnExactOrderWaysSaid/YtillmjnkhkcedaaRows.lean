/-
  No cell of these rows narrows 'for every input' (looked for: loops, veiled, ifaces, maps, wideKeys, modest, calm, conditions, laid).
  DERIVED. THE GIVEN ROWS OF THIS SEAT. 10 by the template 'for every input the law returns true; each argument reads behind the call as it read before'; 0 by the template 'total and deterministic' (their statements: YtillmjnkhkcedaaTotals.lean).
  GIVEN WITH THE SEED: the statements are not yours to turn. If you find one false, say at which input.
  Laid BY PROGRAM, IN A SANDBOX (cutbox-rows.mjs): the forced cells as the released guide's own fill.sh prints them over the translation 006e9d4dac8cc4c1… (all of the seat's roots in one cut). By AI agents, Wed Nov 11 2026. No macro, syntax, notation, axiom, sorry.
-/
import Derived.Test.YtillmjnkhkcedaaChecked
import GoSem.Claim
import GoSem.ClaimJoined
import GoSem.ClaimMapViews
import Derived.JoinedTies
import Derived.KernelRfl
namespace Go.Proofs.Ytillmjnkhkcedaa
/- THE CELL 'sum', in the pinned program and in every row, IS THE sha256 OF THE DUMP (.gsa) THAT YtillmjnkhkcedaaProg.lean LOADS. Nothing in Lean hashes anything: it is a label: what it is worth is what the hold of that sum in a sandbox is worth. -/
noncomputable def Try.pinned : Pinned := { name := "ytillmjnkhkcedaa", sum := "006e9d4dac8cc4c17e2a14f05065316fbe223202df65892abc909fcc5d225ebc", checked := Try.checked }
namespace Rows
def none {H : Type} : Left H := { results := [], args := [] }

/-- 'laws.FnExactOrderIn': WHATEVER THE INPUT: true; the input reads as it did. -/
def fnExactOrderInSpec : ChangeSpec := { name := "fnExactOrderIn", fn := fun _ => fun
  | [d] => { results := [.lit (.bool true)], args := [d] }
  | _ => none }
def fnExactOrderInRow : OpenClaim := { program := "ytillmjnkhkcedaa", sum := "006e9d4dac8cc4c17e2a14f05065316fbe223202df65892abc909fcc5d225ebc", func := "loop.example/fewrelations/laws.FnExactOrderIn", spec := "fnExactOrderIn", inPlace := ["internal/bytealg.IndexByteString"], unfollowed := true, recurses := true, apart := false }
def FnExactOrderInSaid : Prop := fnExactOrderInRow.holds Try.pinned (OpenSpec.ofChange fnExactOrderInSpec)

/-- ITS FALSE NEIGHBOUR: 'it returns false'. Refute it at one input. -/
def fnExactOrderInWrong : ChangeSpec := { name := "fnExactOrderIn", fn := fun _ => fun
  | [d] => { results := [.lit (.bool false)], args := [d] }
  | _ => none }
def FnExactOrderInWrongFalsely : Prop := fnExactOrderInRow.holds Try.pinned (OpenSpec.ofChange fnExactOrderInWrong)

/-- 'laws.FnExactOrderCovers': WHATEVER THE INPUT: true; the input reads as it did. -/
def fnExactOrderCoversSpec : ChangeSpec := { name := "fnExactOrderCovers", fn := fun _ => fun
  | [d] => { results := [.lit (.bool true)], args := [d] }
  | _ => none }
def fnExactOrderCoversRow : OpenClaim := { program := "ytillmjnkhkcedaa", sum := "006e9d4dac8cc4c17e2a14f05065316fbe223202df65892abc909fcc5d225ebc", func := "loop.example/fewrelations/laws.FnExactOrderCovers", spec := "fnExactOrderCovers", inPlace := ["internal/bytealg.IndexByteString"], unfollowed := true, recurses := true, apart := false }
def FnExactOrderCoversSaid : Prop := fnExactOrderCoversRow.holds Try.pinned (OpenSpec.ofChange fnExactOrderCoversSpec)

/-- ITS FALSE NEIGHBOUR: 'it returns false'. Refute it at one input. -/
def fnExactOrderCoversWrong : ChangeSpec := { name := "fnExactOrderCovers", fn := fun _ => fun
  | [d] => { results := [.lit (.bool false)], args := [d] }
  | _ => none }
def FnExactOrderCoversWrongFalsely : Prop := fnExactOrderCoversRow.holds Try.pinned (OpenSpec.ofChange fnExactOrderCoversWrong)

/-- 'laws.FnExactOrderOf': WHATEVER THE INPUT: true; the input reads as it did. -/
def fnExactOrderOfSpec : ChangeSpec := { name := "fnExactOrderOf", fn := fun _ => fun
  | [d] => { results := [.lit (.bool true)], args := [d] }
  | _ => none }
def fnExactOrderOfRow : OpenClaim := { program := "ytillmjnkhkcedaa", sum := "006e9d4dac8cc4c17e2a14f05065316fbe223202df65892abc909fcc5d225ebc", func := "loop.example/fewrelations/laws.FnExactOrderOf", spec := "fnExactOrderOf", inPlace := ["internal/bytealg.IndexByteString"], unfollowed := true, recurses := true, apart := false }
def FnExactOrderOfSaid : Prop := fnExactOrderOfRow.holds Try.pinned (OpenSpec.ofChange fnExactOrderOfSpec)

/-- ITS FALSE NEIGHBOUR: 'it returns false'. Refute it at one input. -/
def fnExactOrderOfWrong : ChangeSpec := { name := "fnExactOrderOf", fn := fun _ => fun
  | [d] => { results := [.lit (.bool false)], args := [d] }
  | _ => none }
def FnExactOrderOfWrongFalsely : Prop := fnExactOrderOfRow.holds Try.pinned (OpenSpec.ofChange fnExactOrderOfWrong)

/-- 'laws.FnExactOrderBound': WHATEVER THE INPUT: true; the input reads as it did. -/
def fnExactOrderBoundSpec : ChangeSpec := { name := "fnExactOrderBound", fn := fun _ => fun
  | [d1, d2] => { results := [.lit (.bool true)], args := [d1, d2] }
  | _ => none }
def fnExactOrderBoundRow : OpenClaim := { program := "ytillmjnkhkcedaa", sum := "006e9d4dac8cc4c17e2a14f05065316fbe223202df65892abc909fcc5d225ebc", func := "loop.example/fewrelations/laws.FnExactOrderBound", spec := "fnExactOrderBound", inPlace := ["internal/bytealg.IndexByteString"], unfollowed := true, recurses := true, apart := false }
def FnExactOrderBoundSaid : Prop := fnExactOrderBoundRow.holds Try.pinned (OpenSpec.ofChange fnExactOrderBoundSpec)

/-- ITS FALSE NEIGHBOUR: 'it returns false'. Refute it at one input. -/
def fnExactOrderBoundWrong : ChangeSpec := { name := "fnExactOrderBound", fn := fun _ => fun
  | [d1, d2] => { results := [.lit (.bool false)], args := [d1, d2] }
  | _ => none }
def FnExactOrderBoundWrongFalsely : Prop := fnExactOrderBoundRow.holds Try.pinned (OpenSpec.ofChange fnExactOrderBoundWrong)

/-- 'laws.FnExactOrderLattice': WHATEVER THE INPUT: true; the input reads as it did. -/
def fnExactOrderLatticeSpec : ChangeSpec := { name := "fnExactOrderLattice", fn := fun _ => fun
  | [d] => { results := [.lit (.bool true)], args := [d] }
  | _ => none }
def fnExactOrderLatticeRow : OpenClaim := { program := "ytillmjnkhkcedaa", sum := "006e9d4dac8cc4c17e2a14f05065316fbe223202df65892abc909fcc5d225ebc", func := "loop.example/fewrelations/laws.FnExactOrderLattice", spec := "fnExactOrderLattice", inPlace := ["internal/bytealg.IndexByteString"], unfollowed := true, recurses := true, apart := false }
def FnExactOrderLatticeSaid : Prop := fnExactOrderLatticeRow.holds Try.pinned (OpenSpec.ofChange fnExactOrderLatticeSpec)

/-- ITS FALSE NEIGHBOUR: 'it returns false'. Refute it at one input. -/
def fnExactOrderLatticeWrong : ChangeSpec := { name := "fnExactOrderLattice", fn := fun _ => fun
  | [d] => { results := [.lit (.bool false)], args := [d] }
  | _ => none }
def FnExactOrderLatticeWrongFalsely : Prop := fnExactOrderLatticeRow.holds Try.pinned (OpenSpec.ofChange fnExactOrderLatticeWrong)

/-- 'laws.FnExactOrderWays': WHATEVER THE INPUT: true; the input reads as it did. -/
def fnExactOrderWaysSpec : ChangeSpec := { name := "fnExactOrderWays", fn := fun _ => fun
  | [d] => { results := [.lit (.bool true)], args := [d] }
  | _ => none }
def fnExactOrderWaysRow : OpenClaim := { program := "ytillmjnkhkcedaa", sum := "006e9d4dac8cc4c17e2a14f05065316fbe223202df65892abc909fcc5d225ebc", func := "loop.example/fewrelations/laws.FnExactOrderWays", spec := "fnExactOrderWays", inPlace := ["internal/bytealg.IndexByteString"], unfollowed := true, recurses := true, apart := false }
def FnExactOrderWaysSaid : Prop := fnExactOrderWaysRow.holds Try.pinned (OpenSpec.ofChange fnExactOrderWaysSpec)

/-- ITS FALSE NEIGHBOUR: 'it returns false'. Refute it at one input. -/
def fnExactOrderWaysWrong : ChangeSpec := { name := "fnExactOrderWays", fn := fun _ => fun
  | [d] => { results := [.lit (.bool false)], args := [d] }
  | _ => none }
def FnExactOrderWaysWrongFalsely : Prop := fnExactOrderWaysRow.holds Try.pinned (OpenSpec.ofChange fnExactOrderWaysWrong)

/-- 'laws.FnExactOrderFirst': WHATEVER THE INPUT: true; the input reads as it did. -/
def fnExactOrderFirstSpec : ChangeSpec := { name := "fnExactOrderFirst", fn := fun _ => fun
  | [d] => { results := [.lit (.bool true)], args := [d] }
  | _ => none }
def fnExactOrderFirstRow : OpenClaim := { program := "ytillmjnkhkcedaa", sum := "006e9d4dac8cc4c17e2a14f05065316fbe223202df65892abc909fcc5d225ebc", func := "loop.example/fewrelations/laws.FnExactOrderFirst", spec := "fnExactOrderFirst", inPlace := ["internal/bytealg.IndexByteString"], unfollowed := true, recurses := true, apart := false }
def FnExactOrderFirstSaid : Prop := fnExactOrderFirstRow.holds Try.pinned (OpenSpec.ofChange fnExactOrderFirstSpec)

/-- ITS FALSE NEIGHBOUR: 'it returns false'. Refute it at one input. -/
def fnExactOrderFirstWrong : ChangeSpec := { name := "fnExactOrderFirst", fn := fun _ => fun
  | [d] => { results := [.lit (.bool false)], args := [d] }
  | _ => none }
def FnExactOrderFirstWrongFalsely : Prop := fnExactOrderFirstRow.holds Try.pinned (OpenSpec.ofChange fnExactOrderFirstWrong)

/-- 'laws.FnExactOrderSizes': WHATEVER THE INPUT: true; the input reads as it did. -/
def fnExactOrderSizesSpec : ChangeSpec := { name := "fnExactOrderSizes", fn := fun _ => fun
  | [d] => { results := [.lit (.bool true)], args := [d] }
  | _ => none }
def fnExactOrderSizesRow : OpenClaim := { program := "ytillmjnkhkcedaa", sum := "006e9d4dac8cc4c17e2a14f05065316fbe223202df65892abc909fcc5d225ebc", func := "loop.example/fewrelations/laws.FnExactOrderSizes", spec := "fnExactOrderSizes", inPlace := ["internal/bytealg.IndexByteString"], unfollowed := true, recurses := true, apart := false }
def FnExactOrderSizesSaid : Prop := fnExactOrderSizesRow.holds Try.pinned (OpenSpec.ofChange fnExactOrderSizesSpec)

/-- ITS FALSE NEIGHBOUR: 'it returns false'. Refute it at one input. -/
def fnExactOrderSizesWrong : ChangeSpec := { name := "fnExactOrderSizes", fn := fun _ => fun
  | [d] => { results := [.lit (.bool false)], args := [d] }
  | _ => none }
def FnExactOrderSizesWrongFalsely : Prop := fnExactOrderSizesRow.holds Try.pinned (OpenSpec.ofChange fnExactOrderSizesWrong)

/-- 'laws.FnExactOrderClasses': WHATEVER THE INPUT: true; the input reads as it did. -/
def fnExactOrderClassesSpec : ChangeSpec := { name := "fnExactOrderClasses", fn := fun _ => fun
  | [d] => { results := [.lit (.bool true)], args := [d] }
  | _ => none }
def fnExactOrderClassesRow : OpenClaim := { program := "ytillmjnkhkcedaa", sum := "006e9d4dac8cc4c17e2a14f05065316fbe223202df65892abc909fcc5d225ebc", func := "loop.example/fewrelations/laws.FnExactOrderClasses", spec := "fnExactOrderClasses", inPlace := ["internal/bytealg.IndexByteString"], unfollowed := true, recurses := true, apart := false }
def FnExactOrderClassesSaid : Prop := fnExactOrderClassesRow.holds Try.pinned (OpenSpec.ofChange fnExactOrderClassesSpec)

/-- ITS FALSE NEIGHBOUR: 'it returns false'. Refute it at one input. -/
def fnExactOrderClassesWrong : ChangeSpec := { name := "fnExactOrderClasses", fn := fun _ => fun
  | [d] => { results := [.lit (.bool false)], args := [d] }
  | _ => none }
def FnExactOrderClassesWrongFalsely : Prop := fnExactOrderClassesRow.holds Try.pinned (OpenSpec.ofChange fnExactOrderClassesWrong)

/-- 'laws.FnSizes': WHATEVER THE INPUT: true; the input reads as it did. -/
def fnSizesSpec : ChangeSpec := { name := "fnSizes", fn := fun _ => fun
  | [d] => { results := [.lit (.bool true)], args := [d] }
  | _ => none }
def fnSizesRow : OpenClaim := { program := "ytillmjnkhkcedaa", sum := "006e9d4dac8cc4c17e2a14f05065316fbe223202df65892abc909fcc5d225ebc", func := "loop.example/fewrelations/laws.FnSizes", spec := "fnSizes", inPlace := ["internal/bytealg.IndexByteString"], unfollowed := true, recurses := true, apart := false }
def FnSizesSaid : Prop := fnSizesRow.holds Try.pinned (OpenSpec.ofChange fnSizesSpec)

/-- ITS FALSE NEIGHBOUR: 'it returns false'. Refute it at one input. -/
def fnSizesWrong : ChangeSpec := { name := "fnSizes", fn := fun _ => fun
  | [d] => { results := [.lit (.bool false)], args := [d] }
  | _ => none }
def FnSizesWrongFalsely : Prop := fnSizesRow.holds Try.pinned (OpenSpec.ofChange fnSizesWrong)

/- THE SECOND FORM. 'bulk': how many values and letters a reading holds, each counted each time it is reached (what is shared counts as often as it is met; a slice's spare places count too). A statement '..UptoSaid' is the law's where the arguments, and the package variables that the reading takes, are together of bulk at most 1048576: NARROWER than '..Said'. Prove '..Said' where nothing that the law and all that it calls make is longer than what came in: it says more and counts as full. Else prove '..UptoSaid'. A law counts once. -/
mutual
def uptoBulk {H : Type} : DataW H → Nat
  | .lit (.string bytes) => bytes.length + 1
  | .lit _ => 1
  | .nil => 1
  | .ptr d => uptoBulk d + 1
  | .slice elems spare => uptoBulkAll elems + uptoBulkAll spare + 1
  | .agg parts => uptoBulkAll parts + 1
  | .iface _ d => uptoBulk d + 1
  | .map entries => uptoBulkEntries entries + 1
  | .held _ => 1
def uptoBulkAll {H : Type} : List (DataW H) → Nat
  | [] => 0
  | d :: r => uptoBulk d + uptoBulkAll r
def uptoBulkEntries {H : Type} : List (Lit × DataW H) → Nat
  | [] => 0
  | x :: r => uptoBulkEntry x + uptoBulkEntries r
def uptoBulkEntry {H : Type} : Lit × DataW H → Nat
  | (.string bytes, d) => bytes.length + uptoBulk d + 1
  | (_, d) => uptoBulk d + 1
 end
def uptoSmall : (H : Type) → List (DataW H) → Bool := fun _ ds => decide (uptoBulkAll ds ≤ 1048576)
def OpenSpec.upto (s : _root_.Go.ChangeSpec) : _root_.Go.OpenSpec := { _root_.Go.OpenSpec.ofChange s with cond := some uptoSmall }

/-- 'laws.FnExactOrderIn', WHERE WHAT IT READS IS OF BULK AT MOST 1048576: true; the input reads as it did. -/
def fnExactOrderInUptoRow : OpenClaim := { program := "ytillmjnkhkcedaa", sum := "006e9d4dac8cc4c17e2a14f05065316fbe223202df65892abc909fcc5d225ebc", func := "loop.example/fewrelations/laws.FnExactOrderIn", spec := "fnExactOrderIn", inPlace := ["internal/bytealg.IndexByteString"], unfollowed := true, recurses := true, apart := false, narrowed := true }
def FnExactOrderInUptoSaid : Prop := fnExactOrderInUptoRow.holds Try.pinned (OpenSpec.upto fnExactOrderInSpec)

/-- 'laws.FnExactOrderCovers', WHERE WHAT IT READS IS OF BULK AT MOST 1048576: true; the input reads as it did. -/
def fnExactOrderCoversUptoRow : OpenClaim := { program := "ytillmjnkhkcedaa", sum := "006e9d4dac8cc4c17e2a14f05065316fbe223202df65892abc909fcc5d225ebc", func := "loop.example/fewrelations/laws.FnExactOrderCovers", spec := "fnExactOrderCovers", inPlace := ["internal/bytealg.IndexByteString"], unfollowed := true, recurses := true, apart := false, narrowed := true }
def FnExactOrderCoversUptoSaid : Prop := fnExactOrderCoversUptoRow.holds Try.pinned (OpenSpec.upto fnExactOrderCoversSpec)

/-- 'laws.FnExactOrderOf', WHERE WHAT IT READS IS OF BULK AT MOST 1048576: true; the input reads as it did. -/
def fnExactOrderOfUptoRow : OpenClaim := { program := "ytillmjnkhkcedaa", sum := "006e9d4dac8cc4c17e2a14f05065316fbe223202df65892abc909fcc5d225ebc", func := "loop.example/fewrelations/laws.FnExactOrderOf", spec := "fnExactOrderOf", inPlace := ["internal/bytealg.IndexByteString"], unfollowed := true, recurses := true, apart := false, narrowed := true }
def FnExactOrderOfUptoSaid : Prop := fnExactOrderOfUptoRow.holds Try.pinned (OpenSpec.upto fnExactOrderOfSpec)

/-- 'laws.FnExactOrderBound', WHERE WHAT IT READS IS OF BULK AT MOST 1048576: true; the input reads as it did. -/
def fnExactOrderBoundUptoRow : OpenClaim := { program := "ytillmjnkhkcedaa", sum := "006e9d4dac8cc4c17e2a14f05065316fbe223202df65892abc909fcc5d225ebc", func := "loop.example/fewrelations/laws.FnExactOrderBound", spec := "fnExactOrderBound", inPlace := ["internal/bytealg.IndexByteString"], unfollowed := true, recurses := true, apart := false, narrowed := true }
def FnExactOrderBoundUptoSaid : Prop := fnExactOrderBoundUptoRow.holds Try.pinned (OpenSpec.upto fnExactOrderBoundSpec)

/-- 'laws.FnExactOrderLattice', WHERE WHAT IT READS IS OF BULK AT MOST 1048576: true; the input reads as it did. -/
def fnExactOrderLatticeUptoRow : OpenClaim := { program := "ytillmjnkhkcedaa", sum := "006e9d4dac8cc4c17e2a14f05065316fbe223202df65892abc909fcc5d225ebc", func := "loop.example/fewrelations/laws.FnExactOrderLattice", spec := "fnExactOrderLattice", inPlace := ["internal/bytealg.IndexByteString"], unfollowed := true, recurses := true, apart := false, narrowed := true }
def FnExactOrderLatticeUptoSaid : Prop := fnExactOrderLatticeUptoRow.holds Try.pinned (OpenSpec.upto fnExactOrderLatticeSpec)

/-- 'laws.FnExactOrderWays', WHERE WHAT IT READS IS OF BULK AT MOST 1048576: true; the input reads as it did. -/
def fnExactOrderWaysUptoRow : OpenClaim := { program := "ytillmjnkhkcedaa", sum := "006e9d4dac8cc4c17e2a14f05065316fbe223202df65892abc909fcc5d225ebc", func := "loop.example/fewrelations/laws.FnExactOrderWays", spec := "fnExactOrderWays", inPlace := ["internal/bytealg.IndexByteString"], unfollowed := true, recurses := true, apart := false, narrowed := true }
def FnExactOrderWaysUptoSaid : Prop := fnExactOrderWaysUptoRow.holds Try.pinned (OpenSpec.upto fnExactOrderWaysSpec)

/-- 'laws.FnExactOrderFirst', WHERE WHAT IT READS IS OF BULK AT MOST 1048576: true; the input reads as it did. -/
def fnExactOrderFirstUptoRow : OpenClaim := { program := "ytillmjnkhkcedaa", sum := "006e9d4dac8cc4c17e2a14f05065316fbe223202df65892abc909fcc5d225ebc", func := "loop.example/fewrelations/laws.FnExactOrderFirst", spec := "fnExactOrderFirst", inPlace := ["internal/bytealg.IndexByteString"], unfollowed := true, recurses := true, apart := false, narrowed := true }
def FnExactOrderFirstUptoSaid : Prop := fnExactOrderFirstUptoRow.holds Try.pinned (OpenSpec.upto fnExactOrderFirstSpec)

/-- 'laws.FnExactOrderSizes', WHERE WHAT IT READS IS OF BULK AT MOST 1048576: true; the input reads as it did. -/
def fnExactOrderSizesUptoRow : OpenClaim := { program := "ytillmjnkhkcedaa", sum := "006e9d4dac8cc4c17e2a14f05065316fbe223202df65892abc909fcc5d225ebc", func := "loop.example/fewrelations/laws.FnExactOrderSizes", spec := "fnExactOrderSizes", inPlace := ["internal/bytealg.IndexByteString"], unfollowed := true, recurses := true, apart := false, narrowed := true }
def FnExactOrderSizesUptoSaid : Prop := fnExactOrderSizesUptoRow.holds Try.pinned (OpenSpec.upto fnExactOrderSizesSpec)

/-- 'laws.FnExactOrderClasses', WHERE WHAT IT READS IS OF BULK AT MOST 1048576: true; the input reads as it did. -/
def fnExactOrderClassesUptoRow : OpenClaim := { program := "ytillmjnkhkcedaa", sum := "006e9d4dac8cc4c17e2a14f05065316fbe223202df65892abc909fcc5d225ebc", func := "loop.example/fewrelations/laws.FnExactOrderClasses", spec := "fnExactOrderClasses", inPlace := ["internal/bytealg.IndexByteString"], unfollowed := true, recurses := true, apart := false, narrowed := true }
def FnExactOrderClassesUptoSaid : Prop := fnExactOrderClassesUptoRow.holds Try.pinned (OpenSpec.upto fnExactOrderClassesSpec)

/-- 'laws.FnSizes', WHERE WHAT IT READS IS OF BULK AT MOST 1048576: true; the input reads as it did. -/
def fnSizesUptoRow : OpenClaim := { program := "ytillmjnkhkcedaa", sum := "006e9d4dac8cc4c17e2a14f05065316fbe223202df65892abc909fcc5d225ebc", func := "loop.example/fewrelations/laws.FnSizes", spec := "fnSizes", inPlace := ["internal/bytealg.IndexByteString"], unfollowed := true, recurses := true, apart := false, narrowed := true }
def FnSizesUptoSaid : Prop := fnSizesUptoRow.holds Try.pinned (OpenSpec.upto fnSizesSpec)

end Rows
end Go.Proofs.Ytillmjnkhkcedaa
