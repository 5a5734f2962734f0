/-
  No cell of these rows narrows 'for every input' (looked for: loops, veiled, ifaces, maps, wideKeys, modest, calm, conditions, laid).
  DERIVED. THE GIVEN ROWS OF THIS SEAT. 5 by the template 'for every input the law returns true; each argument reads behind the call as it read before'; 0 by the template 'total and deterministic' (their statements: YtdibnmbppbgjfabTotals.lean).
  GIVEN WITH THE SEED: the statements are not yours to turn. If you find one false, say at which input.
  Laid BY PROGRAM, IN A SANDBOX (cutbox-rows.mjs): the forced cells as the released guide's own fill.sh prints them over the translation c426ea8c85369013… (all of the seat's roots in one cut). By AI agents, Wed Nov 11 2026. No macro, syntax, notation, axiom, sorry.
-/
import Derived.Test.YtdibnmbppbgjfabChecked
import GoSem.Claim
import GoSem.ClaimJoined
import GoSem.ClaimMapViews
import Derived.JoinedTies
import Derived.KernelRfl
namespace Go.Proofs.Ytdibnmbppbgjfab
/- THE CELL 'sum', in the pinned program and in every row, IS THE sha256 OF THE DUMP (.gsa) THAT YtdibnmbppbgjfabProg.lean LOADS. Nothing in Lean hashes anything: it is a label: what it is worth is what the hold of that sum in a sandbox is worth. -/
noncomputable def Try.pinned : Pinned := { name := "ytdibnmbppbgjfab", sum := "c426ea8c85369013fcfe5d801d0d2c5d75d42afbccacfba9145dcc6b848c45a4", checked := Try.checked }
namespace Rows
def none {H : Type} : Left H := { results := [], args := [] }

/-- 'laws.FnRelEnds': WHATEVER THE INPUT: true; the input reads as it did. -/
def fnRelEndsSpec : ChangeSpec := { name := "fnRelEnds", fn := fun _ => fun
  | [d] => { results := [.lit (.bool true)], args := [d] }
  | _ => none }
def fnRelEndsRow : OpenClaim := { program := "ytdibnmbppbgjfab", sum := "c426ea8c85369013fcfe5d801d0d2c5d75d42afbccacfba9145dcc6b848c45a4", func := "loop.example/fewrelations/laws.FnRelEnds", spec := "fnRelEnds", unfollowed := true, recurses := true, apart := false }
def FnRelEndsSaid : Prop := fnRelEndsRow.holds Try.pinned (OpenSpec.ofChange fnRelEndsSpec)

/-- ITS FALSE NEIGHBOUR: 'it returns false'. Refute it at one input. -/
def fnRelEndsWrong : ChangeSpec := { name := "fnRelEnds", fn := fun _ => fun
  | [d] => { results := [.lit (.bool false)], args := [d] }
  | _ => none }
def FnRelEndsWrongFalsely : Prop := fnRelEndsRow.holds Try.pinned (OpenSpec.ofChange fnRelEndsWrong)

/-- 'laws.FnComp': WHATEVER THE INPUT: true; the input reads as it did. -/
def fnCompSpec : ChangeSpec := { name := "fnComp", fn := fun _ => fun
  | [d] => { results := [.lit (.bool true)], args := [d] }
  | _ => none }
def fnCompRow : OpenClaim := { program := "ytdibnmbppbgjfab", sum := "c426ea8c85369013fcfe5d801d0d2c5d75d42afbccacfba9145dcc6b848c45a4", func := "loop.example/fewrelations/laws.FnComp", spec := "fnComp", unfollowed := true, recurses := true, apart := false }
def FnCompSaid : Prop := fnCompRow.holds Try.pinned (OpenSpec.ofChange fnCompSpec)

/-- ITS FALSE NEIGHBOUR: 'it returns false'. Refute it at one input. -/
def fnCompWrong : ChangeSpec := { name := "fnComp", fn := fun _ => fun
  | [d] => { results := [.lit (.bool false)], args := [d] }
  | _ => none }
def FnCompWrongFalsely : Prop := fnCompRow.holds Try.pinned (OpenSpec.ofChange fnCompWrong)

/-- 'laws.FnExactRelOf': WHATEVER THE INPUT: true; the input reads as it did. -/
def fnExactRelOfSpec : ChangeSpec := { name := "fnExactRelOf", fn := fun _ => fun
  | [d1, d2] => { results := [.lit (.bool true)], args := [d1, d2] }
  | _ => none }
def fnExactRelOfRow : OpenClaim := { program := "ytdibnmbppbgjfab", sum := "c426ea8c85369013fcfe5d801d0d2c5d75d42afbccacfba9145dcc6b848c45a4", func := "loop.example/fewrelations/laws.FnExactRelOf", spec := "fnExactRelOf", apart := false }
def FnExactRelOfSaid : Prop := fnExactRelOfRow.holds Try.pinned (OpenSpec.ofChange fnExactRelOfSpec)

/-- ITS FALSE NEIGHBOUR: 'it returns false'. Refute it at one input. -/
def fnExactRelOfWrong : ChangeSpec := { name := "fnExactRelOf", fn := fun _ => fun
  | [d1, d2] => { results := [.lit (.bool false)], args := [d1, d2] }
  | _ => none }
def FnExactRelOfWrongFalsely : Prop := fnExactRelOfRow.holds Try.pinned (OpenSpec.ofChange fnExactRelOfWrong)

/-- 'laws.FnExactRelPairs': WHATEVER THE INPUT: true; the input reads as it did. -/
def fnExactRelPairsSpec : ChangeSpec := { name := "fnExactRelPairs", fn := fun _ => fun
  | [d] => { results := [.lit (.bool true)], args := [d] }
  | _ => none }
def fnExactRelPairsRow : OpenClaim := { program := "ytdibnmbppbgjfab", sum := "c426ea8c85369013fcfe5d801d0d2c5d75d42afbccacfba9145dcc6b848c45a4", func := "loop.example/fewrelations/laws.FnExactRelPairs", spec := "fnExactRelPairs", unfollowed := true, recurses := true, apart := false }
def FnExactRelPairsSaid : Prop := fnExactRelPairsRow.holds Try.pinned (OpenSpec.ofChange fnExactRelPairsSpec)

/-- ITS FALSE NEIGHBOUR: 'it returns false'. Refute it at one input. -/
def fnExactRelPairsWrong : ChangeSpec := { name := "fnExactRelPairs", fn := fun _ => fun
  | [d] => { results := [.lit (.bool false)], args := [d] }
  | _ => none }
def FnExactRelPairsWrongFalsely : Prop := fnExactRelPairsRow.holds Try.pinned (OpenSpec.ofChange fnExactRelPairsWrong)

/-- 'laws.FnExactRelNamed': WHATEVER THE INPUT: true; the input reads as it did. -/
def fnExactRelNamedSpec : ChangeSpec := { name := "fnExactRelNamed", fn := fun _ => fun
  | [d1, d2] => { results := [.lit (.bool true)], args := [d1, d2] }
  | _ => none }
def fnExactRelNamedRow : OpenClaim := { program := "ytdibnmbppbgjfab", sum := "c426ea8c85369013fcfe5d801d0d2c5d75d42afbccacfba9145dcc6b848c45a4", func := "loop.example/fewrelations/laws.FnExactRelNamed", spec := "fnExactRelNamed", unfollowed := true, recurses := true, apart := false }
def FnExactRelNamedSaid : Prop := fnExactRelNamedRow.holds Try.pinned (OpenSpec.ofChange fnExactRelNamedSpec)

/-- ITS FALSE NEIGHBOUR: 'it returns false'. Refute it at one input. -/
def fnExactRelNamedWrong : ChangeSpec := { name := "fnExactRelNamed", fn := fun _ => fun
  | [d1, d2] => { results := [.lit (.bool false)], args := [d1, d2] }
  | _ => none }
def FnExactRelNamedWrongFalsely : Prop := fnExactRelNamedRow.holds Try.pinned (OpenSpec.ofChange fnExactRelNamedWrong)

/- THE SECOND FORM. 'bulk': how many values and letters a reading holds, each counted each time it is reached (what is shared counts as often as it is met; a slice's spare places count too). A statement '..UptoSaid' is the law's where the arguments, and the package variables that the reading takes, are together of bulk at most 1048576: NARROWER than '..Said'. Prove '..Said' where nothing that the law and all that it calls make is longer than what came in: it says more and counts as full. Else prove '..UptoSaid'. A law counts once. -/
mutual
def uptoBulk {H : Type} : DataW H → Nat
  | .lit (.string bytes) => bytes.length + 1
  | .lit _ => 1
  | .nil => 1
  | .ptr d => uptoBulk d + 1
  | .slice elems spare => uptoBulkAll elems + uptoBulkAll spare + 1
  | .agg parts => uptoBulkAll parts + 1
  | .iface _ d => uptoBulk d + 1
  | .map entries => uptoBulkEntries entries + 1
  | .held _ => 1
def uptoBulkAll {H : Type} : List (DataW H) → Nat
  | [] => 0
  | d :: r => uptoBulk d + uptoBulkAll r
def uptoBulkEntries {H : Type} : List (Lit × DataW H) → Nat
  | [] => 0
  | x :: r => uptoBulkEntry x + uptoBulkEntries r
def uptoBulkEntry {H : Type} : Lit × DataW H → Nat
  | (.string bytes, d) => bytes.length + uptoBulk d + 1
  | (_, d) => uptoBulk d + 1
 end
def uptoSmall : (H : Type) → List (DataW H) → Bool := fun _ ds => decide (uptoBulkAll ds ≤ 1048576)
def OpenSpec.upto (s : _root_.Go.ChangeSpec) : _root_.Go.OpenSpec := { _root_.Go.OpenSpec.ofChange s with cond := some uptoSmall }

/-- 'laws.FnRelEnds', WHERE WHAT IT READS IS OF BULK AT MOST 1048576: true; the input reads as it did. -/
def fnRelEndsUptoRow : OpenClaim := { program := "ytdibnmbppbgjfab", sum := "c426ea8c85369013fcfe5d801d0d2c5d75d42afbccacfba9145dcc6b848c45a4", func := "loop.example/fewrelations/laws.FnRelEnds", spec := "fnRelEnds", unfollowed := true, recurses := true, apart := false, narrowed := true }
def FnRelEndsUptoSaid : Prop := fnRelEndsUptoRow.holds Try.pinned (OpenSpec.upto fnRelEndsSpec)

/-- 'laws.FnComp', WHERE WHAT IT READS IS OF BULK AT MOST 1048576: true; the input reads as it did. -/
def fnCompUptoRow : OpenClaim := { program := "ytdibnmbppbgjfab", sum := "c426ea8c85369013fcfe5d801d0d2c5d75d42afbccacfba9145dcc6b848c45a4", func := "loop.example/fewrelations/laws.FnComp", spec := "fnComp", unfollowed := true, recurses := true, apart := false, narrowed := true }
def FnCompUptoSaid : Prop := fnCompUptoRow.holds Try.pinned (OpenSpec.upto fnCompSpec)

/-- 'laws.FnExactRelOf', WHERE WHAT IT READS IS OF BULK AT MOST 1048576: true; the input reads as it did. -/
def fnExactRelOfUptoRow : OpenClaim := { program := "ytdibnmbppbgjfab", sum := "c426ea8c85369013fcfe5d801d0d2c5d75d42afbccacfba9145dcc6b848c45a4", func := "loop.example/fewrelations/laws.FnExactRelOf", spec := "fnExactRelOf", apart := false, narrowed := true }
def FnExactRelOfUptoSaid : Prop := fnExactRelOfUptoRow.holds Try.pinned (OpenSpec.upto fnExactRelOfSpec)

/-- 'laws.FnExactRelPairs', WHERE WHAT IT READS IS OF BULK AT MOST 1048576: true; the input reads as it did. -/
def fnExactRelPairsUptoRow : OpenClaim := { program := "ytdibnmbppbgjfab", sum := "c426ea8c85369013fcfe5d801d0d2c5d75d42afbccacfba9145dcc6b848c45a4", func := "loop.example/fewrelations/laws.FnExactRelPairs", spec := "fnExactRelPairs", unfollowed := true, recurses := true, apart := false, narrowed := true }
def FnExactRelPairsUptoSaid : Prop := fnExactRelPairsUptoRow.holds Try.pinned (OpenSpec.upto fnExactRelPairsSpec)

/-- 'laws.FnExactRelNamed', WHERE WHAT IT READS IS OF BULK AT MOST 1048576: true; the input reads as it did. -/
def fnExactRelNamedUptoRow : OpenClaim := { program := "ytdibnmbppbgjfab", sum := "c426ea8c85369013fcfe5d801d0d2c5d75d42afbccacfba9145dcc6b848c45a4", func := "loop.example/fewrelations/laws.FnExactRelNamed", spec := "fnExactRelNamed", unfollowed := true, recurses := true, apart := false, narrowed := true }
def FnExactRelNamedUptoSaid : Prop := fnExactRelNamedUptoRow.holds Try.pinned (OpenSpec.upto fnExactRelNamedSpec)

end Rows
end Go.Proofs.Ytdibnmbppbgjfab
