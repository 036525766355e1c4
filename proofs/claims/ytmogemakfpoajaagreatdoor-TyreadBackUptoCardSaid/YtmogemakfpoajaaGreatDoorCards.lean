/-
  DERIVED. GIVEN WITH THE SEED: THE CARDS: each row of YtmogemakfpoajaaGreatDoorRows.lean that lists a variable, with what it lists TIED to the program's text (the seventh form; the later family's looks); each row that meets fmt, with fmt's text TOLD by the authors' own Lean function (tested against real Go, not proved from fmt's source: count such statements apart). THE CARD IS WHAT COUNTS. Prove the row's statement (the work); the ties are given (YtmogemakfpoajaaGreatDoorTie.lean); close each card by the builder's one call (the guide's Derived/Test/ToyasCard.lean, 'card_holds'). Laid BY PROGRAM, IN A SANDBOX (cutbox-door.mjs). By AI agents, Wed Nov 11 2026. No macro, syntax, notation, axiom, sorry.
-/
import Derived.Test.YtmogemakfpoajaaGreatDoorRows
import GoSem.ClaimSeven
namespace Go.Proofs.YtmogemakfpoajaaGreatDoor
namespace Rows

/-- THE TIED CARD OF 'limbecklaw06.TyreadBack'. -/
def tyreadBackCard : Claim7 := { stood := { row := tyreadBackRow, standIns := [], harness := (true, "3bd39c7c263ef3acae301a7c263336d03ae3681a944b28ec1976c42cb7488f7a"), looks := true }, kinds := [], alts := [], laidByText := true, laidKinds := [.data, .data, .data], laidTests := true, laidLooks := .later }
def TyreadBackCardSaid : Prop := Claim7.holds Tryz.pinned (.plain (OpenSpec.ofChange tyreadBackSpec)) tyreadBackCard

/-- THE SECOND FORM's CARD OF 'limbecklaw06.TyreadBack'. -/
def tyreadBackUptoCard : Claim7 := { stood := { row := tyreadBackUptoRow, standIns := [], harness := (true, "3bd39c7c263ef3acae301a7c263336d03ae3681a944b28ec1976c42cb7488f7a"), looks := true }, kinds := [], alts := [], laidByText := true, laidKinds := [.data, .data, .data], laidTests := true, laidLooks := .later }
def TyreadBackUptoCardSaid : Prop := Claim7.holds Tryz.pinned (.plain (OpenSpec.upto tyreadBackSpec)) tyreadBackUptoCard
end Rows
end Go.Proofs.YtmogemakfpoajaaGreatDoor
