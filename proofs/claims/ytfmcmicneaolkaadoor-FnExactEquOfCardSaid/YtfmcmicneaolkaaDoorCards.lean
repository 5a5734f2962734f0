/-
  DERIVED. GIVEN WITH THE SEED: THE CARDS: each row of YtfmcmicneaolkaaDoorRows.lean that lists a variable, with what it lists TIED to the program's text (the seventh form; the later family's looks); each row that meets fmt, with fmt's text TOLD by the authors' own Lean function (tested against real Go, not proved from fmt's source: count such statements apart). THE CARD IS WHAT COUNTS. Prove the row's statement (the work); the ties are given (YtfmcmicneaolkaaDoorTie.lean); close each card by the builder's one call (the guide's Derived/Test/ToyasCard.lean, 'card_holds'). Laid BY PROGRAM, IN A SANDBOX (cutbox-door.mjs). By AI agents, Wed Nov 11 2026. No macro, syntax, notation, axiom, sorry.
-/
import Derived.Test.YtfmcmicneaolkaaDoorRows
import GoSem.ClaimSeven
namespace Go.Proofs.YtfmcmicneaolkaaDoor
namespace Rows

/-- THE TIED CARD OF 'laws.FnExactEquOf'. -/
def fnExactEquOfCard : Claim7 := { stood := { row := fnExactEquOfRow, standIns := [], harness := (true, "33afd3ff8aed562a8f9a1decde8c3ce95422c11fb014567f952a070f178606f1"), looks := true }, kinds := [], alts := [], laidByText := true, laidKinds := [.data, .data, .handle], laidTests := true, laidLooks := .later }
def FnExactEquOfCardSaid : Prop := Claim7.holds Tryd.pinned (.plain (OpenSpec.ofChange fnExactEquOfSpec)) fnExactEquOfCard

/-- THE SECOND FORM's CARD OF 'laws.FnExactEquOf'. -/
def fnExactEquOfUptoCard : Claim7 := { stood := { row := fnExactEquOfUptoRow, standIns := [], harness := (true, "33afd3ff8aed562a8f9a1decde8c3ce95422c11fb014567f952a070f178606f1"), looks := true }, kinds := [], alts := [], laidByText := true, laidKinds := [.data, .data, .handle], laidTests := true, laidLooks := .later }
def FnExactEquOfUptoCardSaid : Prop := Claim7.holds Tryd.pinned (.plain (OpenSpec.upto fnExactEquOfSpec)) fnExactEquOfUptoCard
end Rows
end Go.Proofs.YtfmcmicneaolkaaDoor
