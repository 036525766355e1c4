/-
  DERIVED. GIVEN WITH THE SEED: THE CARDS: each row of YtkoabcncdjmoeaaGreatDoorRows.lean that lists a variable, with what it lists TIED to the program's text (the seventh form; the later family's looks); each row that meets fmt, with fmt's text TOLD by the authors' own Lean function (tested against real Go, not proved from fmt's source: count such statements apart). THE CARD IS WHAT COUNTS. Prove the row's statement (the work); the ties are given (YtkoabcncdjmoeaaGreatDoorTie.lean); close each card by the builder's one call (the guide's Derived/Test/ToyasCard.lean, 'card_holds'). Laid BY PROGRAM, IN A SANDBOX (cutbox-door.mjs). By AI agents, Wed Nov 11 2026. No macro, syntax, notation, axiom, sorry.
-/
import Derived.Test.YtkoabcncdjmoeaaGreatDoorRows
import GoSem.ClaimSeven
namespace Go.Proofs.YtkoabcncdjmoeaaGreatDoor
namespace Rows

/-- THE TIED CARD OF 'limbecklaw06.TyreadParses'. -/
def tyreadParsesCard : Claim7 := { stood := { row := tyreadParsesRow, standIns := [], harness := (true, "55d44eff40c5136d0a35418073f5635f9e84907207f3f0a3d2379e319d4a79b1"), looks := true }, kinds := [], alts := [], laidByText := true, laidKinds := [.data, .data, .data, .handle], laidTests := true, laidLooks := .later }
def TyreadParsesCardSaid : Prop := Claim7.holds Tryz.pinned (.plain (OpenSpec.ofChange tyreadParsesSpec)) tyreadParsesCard

/-- THE TIED CARD OF 'limbecklaw06.TyreadReads'. -/
def tyreadReadsCard : Claim7 := { stood := { row := tyreadReadsRow, standIns := [], harness := (true, "55d44eff40c5136d0a35418073f5635f9e84907207f3f0a3d2379e319d4a79b1"), looks := true }, kinds := [], alts := [], laidByText := true, laidKinds := [.data, .data, .data, .handle], laidTests := true, laidLooks := .later }
def TyreadReadsCardSaid : Prop := Claim7.holds Tryz.pinned (.plain (OpenSpec.ofChange tyreadReadsSpec)) tyreadReadsCard

/-- THE TIED CARD OF 'limbecklaw06.TyreadBack'. -/
def tyreadBackCard : Claim7 := { stood := { row := tyreadBackRow, standIns := [], harness := (true, "55d44eff40c5136d0a35418073f5635f9e84907207f3f0a3d2379e319d4a79b1"), looks := true }, kinds := [], alts := [], laidByText := true, laidKinds := [.data, .data, .data], laidTests := true, laidLooks := .later }
def TyreadBackCardSaid : Prop := Claim7.holds Tryz.pinned (.plain (OpenSpec.ofChange tyreadBackSpec)) tyreadBackCard

/-- THE TIED CARD OF 'limbecklaw06.TyreadDeep'. -/
def tyreadDeepCard : Claim7 := { stood := { row := tyreadDeepRow, standIns := [], harness := (true, "55d44eff40c5136d0a35418073f5635f9e84907207f3f0a3d2379e319d4a79b1"), looks := true }, kinds := [], alts := [], laidByText := true, laidKinds := [.data, .data, .data, .handle], laidTests := true, laidLooks := .later }
def TyreadDeepCardSaid : Prop := Claim7.holds Tryz.pinned (.plain (OpenSpec.ofChange tyreadDeepSpec)) tyreadDeepCard

/-- THE SECOND FORM's CARD OF 'limbecklaw06.TyreadParses'. -/
def tyreadParsesUptoCard : Claim7 := { stood := { row := tyreadParsesUptoRow, standIns := [], harness := (true, "55d44eff40c5136d0a35418073f5635f9e84907207f3f0a3d2379e319d4a79b1"), looks := true }, kinds := [], alts := [], laidByText := true, laidKinds := [.data, .data, .data, .handle], laidTests := true, laidLooks := .later }
def TyreadParsesUptoCardSaid : Prop := Claim7.holds Tryz.pinned (.plain (OpenSpec.upto tyreadParsesSpec)) tyreadParsesUptoCard

/-- THE SECOND FORM's CARD OF 'limbecklaw06.TyreadReads'. -/
def tyreadReadsUptoCard : Claim7 := { stood := { row := tyreadReadsUptoRow, standIns := [], harness := (true, "55d44eff40c5136d0a35418073f5635f9e84907207f3f0a3d2379e319d4a79b1"), looks := true }, kinds := [], alts := [], laidByText := true, laidKinds := [.data, .data, .data, .handle], laidTests := true, laidLooks := .later }
def TyreadReadsUptoCardSaid : Prop := Claim7.holds Tryz.pinned (.plain (OpenSpec.upto tyreadReadsSpec)) tyreadReadsUptoCard

/-- THE SECOND FORM's CARD OF 'limbecklaw06.TyreadBack'. -/
def tyreadBackUptoCard : Claim7 := { stood := { row := tyreadBackUptoRow, standIns := [], harness := (true, "55d44eff40c5136d0a35418073f5635f9e84907207f3f0a3d2379e319d4a79b1"), looks := true }, kinds := [], alts := [], laidByText := true, laidKinds := [.data, .data, .data], laidTests := true, laidLooks := .later }
def TyreadBackUptoCardSaid : Prop := Claim7.holds Tryz.pinned (.plain (OpenSpec.upto tyreadBackSpec)) tyreadBackUptoCard

/-- THE SECOND FORM's CARD OF 'limbecklaw06.TyreadDeep'. -/
def tyreadDeepUptoCard : Claim7 := { stood := { row := tyreadDeepUptoRow, standIns := [], harness := (true, "55d44eff40c5136d0a35418073f5635f9e84907207f3f0a3d2379e319d4a79b1"), looks := true }, kinds := [], alts := [], laidByText := true, laidKinds := [.data, .data, .data, .handle], laidTests := true, laidLooks := .later }
def TyreadDeepUptoCardSaid : Prop := Claim7.holds Tryz.pinned (.plain (OpenSpec.upto tyreadDeepSpec)) tyreadDeepUptoCard
end Rows
end Go.Proofs.YtkoabcncdjmoeaaGreatDoor
