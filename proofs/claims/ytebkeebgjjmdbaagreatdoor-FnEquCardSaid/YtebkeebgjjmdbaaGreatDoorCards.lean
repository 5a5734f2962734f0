/-
  DERIVED. GIVEN WITH THE SEED: THE CARDS: each row of YtebkeebgjjmdbaaGreatDoorRows.lean that lists a variable, with what it lists TIED to the program's text (the seventh form; the later family's looks); each row that meets fmt, with fmt's text TOLD by the authors' own Lean function (tested against real Go, not proved from fmt's source: count such statements apart). THE CARD IS WHAT COUNTS. Prove the row's statement (the work); the ties are given (YtebkeebgjjmdbaaGreatDoorTie.lean); close each card by the builder's one call (the guide's Derived/Test/ToyasCard.lean, 'card_holds'). Laid BY PROGRAM, IN A SANDBOX (cutbox-door.mjs). By AI agents, Wed Nov 11 2026. No macro, syntax, notation, axiom, sorry.
-/
import Derived.Test.YtebkeebgjjmdbaaGreatDoorRows
import GoSem.ClaimSeven
namespace Go.Proofs.YtebkeebgjjmdbaaGreatDoor
namespace Rows

/-- THE TIED CARD OF 'laws.FnEqu'. -/
def fnEquCard : Claim7 := { stood := { row := fnEquRow, standIns := [], harness := (true, "b1b419a7448c927f370cfcdd18a619e042bb207141ad5e60c6cc710bd9c28948"), looks := true }, kinds := [], alts := [], laidByText := true, laidKinds := [.data, .data, .handle], laidTests := true, laidLooks := .later }
def FnEquCardSaid : Prop := Claim7.holds Tryz.pinned (.plain (OpenSpec.ofChange fnEquSpec)) fnEquCard

/-- THE TIED CARD OF 'laws.FnEquOf'. -/
def fnEquOfCard : Claim7 := { stood := { row := fnEquOfRow, standIns := [], harness := (true, "b1b419a7448c927f370cfcdd18a619e042bb207141ad5e60c6cc710bd9c28948"), looks := true }, kinds := [], alts := [], laidByText := true, laidKinds := [.data, .data, .handle], laidTests := true, laidLooks := .later }
def FnEquOfCardSaid : Prop := Claim7.holds Tryz.pinned (.plain (OpenSpec.ofChange fnEquOfSpec)) fnEquOfCard

/-- THE SECOND FORM's CARD OF 'laws.FnEqu'. -/
def fnEquUptoCard : Claim7 := { stood := { row := fnEquUptoRow, standIns := [], harness := (true, "b1b419a7448c927f370cfcdd18a619e042bb207141ad5e60c6cc710bd9c28948"), looks := true }, kinds := [], alts := [], laidByText := true, laidKinds := [.data, .data, .handle], laidTests := true, laidLooks := .later }
def FnEquUptoCardSaid : Prop := Claim7.holds Tryz.pinned (.plain (OpenSpec.upto fnEquSpec)) fnEquUptoCard

/-- THE SECOND FORM's CARD OF 'laws.FnEquOf'. -/
def fnEquOfUptoCard : Claim7 := { stood := { row := fnEquOfUptoRow, standIns := [], harness := (true, "b1b419a7448c927f370cfcdd18a619e042bb207141ad5e60c6cc710bd9c28948"), looks := true }, kinds := [], alts := [], laidByText := true, laidKinds := [.data, .data, .handle], laidTests := true, laidLooks := .later }
def FnEquOfUptoCardSaid : Prop := Claim7.holds Tryz.pinned (.plain (OpenSpec.upto fnEquOfSpec)) fnEquOfUptoCard
end Rows
end Go.Proofs.YtebkeebgjjmdbaaGreatDoor
