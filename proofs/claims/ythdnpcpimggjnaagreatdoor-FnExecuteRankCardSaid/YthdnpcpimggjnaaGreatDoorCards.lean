/-
  DERIVED. GIVEN WITH THE SEED: THE CARDS: each row of YthdnpcpimggjnaaGreatDoorRows.lean that lists a variable, with what it lists TIED to the program's text (the seventh form; the later family's looks); each row that meets fmt, with fmt's text TOLD by the authors' own Lean function (tested against real Go, not proved from fmt's source: count such statements apart). THE CARD IS WHAT COUNTS. Prove the row's statement (the work); the ties are given (YthdnpcpimggjnaaGreatDoorTie.lean); close each card by the builder's one call (the guide's Derived/Test/ToyasCard.lean, 'card_holds'). Laid BY PROGRAM, IN A SANDBOX (cutbox-door.mjs). By AI agents, Wed Nov 11 2026. No macro, syntax, notation, axiom, sorry.
-/
import Derived.Test.YthdnpcpimggjnaaGreatDoorRows
import GoSem.ClaimSeven
namespace Go.Proofs.YthdnpcpimggjnaaGreatDoor
namespace Rows

/-- THE TIED CARD OF 'laws.FnExecuteKinds'. -/
def fnExecuteKindsCard : Claim7 := { stood := { row := fnExecuteKindsRow, standIns := [], harness := (true, "300caa0ab3352a1088fcd1dcba1e3787e3ad306e0ee464ded3081fc2981082fe"), looks := true }, kinds := [], alts := [], goes := true, laidByText := true, laidKinds := [.data, .data, .data, .data, .pinned], laidTests := true, laidLooks := .later }
def FnExecuteKindsCardSaid : Prop := Claim7.holds Tryz.pinned (.plain (OpenSpec.ofChange fnExecuteKindsSpec)) fnExecuteKindsCard

/-- THE TIED CARD OF 'laws.FnExecuteRank'. -/
def fnExecuteRankCard : Claim7 := { stood := { row := fnExecuteRankRow, standIns := [], harness := (true, "300caa0ab3352a1088fcd1dcba1e3787e3ad306e0ee464ded3081fc2981082fe"), looks := true }, kinds := [], alts := [], goes := true, laidByText := true, laidKinds := [.data, .data, .data, .data, .pinned], laidTests := true, laidLooks := .later }
def FnExecuteRankCardSaid : Prop := Claim7.holds Tryz.pinned (.plain (OpenSpec.ofChange fnExecuteRankSpec)) fnExecuteRankCard

/-- THE SECOND FORM's CARD OF 'laws.FnExecuteKinds'. -/
def fnExecuteKindsUptoCard : Claim7 := { stood := { row := fnExecuteKindsUptoRow, standIns := [], harness := (true, "300caa0ab3352a1088fcd1dcba1e3787e3ad306e0ee464ded3081fc2981082fe"), looks := true }, kinds := [], alts := [], goes := true, laidByText := true, laidKinds := [.data, .data, .data, .data, .pinned], laidTests := true, laidLooks := .later }
def FnExecuteKindsUptoCardSaid : Prop := Claim7.holds Tryz.pinned (.plain (OpenSpec.upto fnExecuteKindsSpec)) fnExecuteKindsUptoCard

/-- THE SECOND FORM's CARD OF 'laws.FnExecuteRank'. -/
def fnExecuteRankUptoCard : Claim7 := { stood := { row := fnExecuteRankUptoRow, standIns := [], harness := (true, "300caa0ab3352a1088fcd1dcba1e3787e3ad306e0ee464ded3081fc2981082fe"), looks := true }, kinds := [], alts := [], goes := true, laidByText := true, laidKinds := [.data, .data, .data, .data, .pinned], laidTests := true, laidLooks := .later }
def FnExecuteRankUptoCardSaid : Prop := Claim7.holds Tryz.pinned (.plain (OpenSpec.upto fnExecuteRankSpec)) fnExecuteRankUptoCard
end Rows
end Go.Proofs.YthdnpcpimggjnaaGreatDoor
