/-
  DERIVED. GIVEN WITH THE SEED: THE CARDS: each row of YtiajemakpdpnaaaDoorRows.lean that lists a variable, with what it lists TIED to the program's text (the seventh form; the later family's looks); each row that meets fmt, with fmt's text TOLD by the authors' own Lean function (tested against real Go, not proved from fmt's source: count such statements apart). THE CARD IS WHAT COUNTS. Prove the row's statement (the work); the ties are given (YtiajemakpdpnaaaDoorTie.lean); close each card by the builder's one call (the guide's Derived/Test/ToyasCard.lean, 'card_holds'). Laid BY PROGRAM, IN A SANDBOX (cutbox-door.mjs). By AI agents, Wed Nov 11 2026. No macro, syntax, notation, axiom, sorry.
-/
import Derived.Test.YtiajemakpdpnaaaDoorRows
import GoSem.ClaimSeven
namespace Go.Proofs.YtiajemakpdpnaaaDoor
namespace Rows

/-- THE TIED CARD OF 'limbecklaw05.TyfmtShows'. -/
def tyfmtShowsCard : Claim7 := { stood := { row := tyfmtShowsRow, standIns := [], harness := (true, "78ced0776ce773f9ebab2c851008ae4b3e70eff9dc1a761a72f8914a31993de7"), looks := false }, kinds := [], alts := [], laidByText := true, laidKinds := [.data, .data, .data], laidTests := true, laidLooks := .later }
def TyfmtShowsCardSaid : Prop := Claim7.holds Tryd.pinned (.plain (OpenSpec.ofChange tyfmtShowsSpec)) tyfmtShowsCard

/-- THE TIED CARD OF 'limbecklaw05.TyfmtLists'. -/
def tyfmtListsCard : Claim7 := { stood := { row := tyfmtListsRow, standIns := [], harness := (true, "78ced0776ce773f9ebab2c851008ae4b3e70eff9dc1a761a72f8914a31993de7"), looks := false }, kinds := [], alts := [], laidByText := true, laidKinds := [.data, .data, .data], laidTests := true, laidLooks := .later }
def TyfmtListsCardSaid : Prop := Claim7.holds Tryd.pinned (.plain (OpenSpec.ofChange tyfmtListsSpec)) tyfmtListsCard

/-- THE TIED CARD OF 'limbecklaw05.TyfmtOne'. -/
def tyfmtOneCard : Claim7 := { stood := { row := tyfmtOneRow, standIns := [], harness := (true, "78ced0776ce773f9ebab2c851008ae4b3e70eff9dc1a761a72f8914a31993de7"), looks := false }, kinds := [], alts := [], laidByText := true, laidKinds := [.data, .data, .data], laidTests := true, laidLooks := .later }
def TyfmtOneCardSaid : Prop := Claim7.holds Tryd.pinned (.plain (OpenSpec.ofChange tyfmtOneSpec)) tyfmtOneCard

/-- THE SECOND FORM's CARD OF 'limbecklaw05.TyfmtShows'. -/
def tyfmtShowsUptoCard : Claim7 := { stood := { row := tyfmtShowsUptoRow, standIns := [], harness := (true, "78ced0776ce773f9ebab2c851008ae4b3e70eff9dc1a761a72f8914a31993de7"), looks := false }, kinds := [], alts := [], laidByText := true, laidKinds := [.data, .data, .data], laidTests := true, laidLooks := .later }
def TyfmtShowsUptoCardSaid : Prop := Claim7.holds Tryd.pinned (.plain (OpenSpec.upto tyfmtShowsSpec)) tyfmtShowsUptoCard

/-- THE SECOND FORM's CARD OF 'limbecklaw05.TyfmtLists'. -/
def tyfmtListsUptoCard : Claim7 := { stood := { row := tyfmtListsUptoRow, standIns := [], harness := (true, "78ced0776ce773f9ebab2c851008ae4b3e70eff9dc1a761a72f8914a31993de7"), looks := false }, kinds := [], alts := [], laidByText := true, laidKinds := [.data, .data, .data], laidTests := true, laidLooks := .later }
def TyfmtListsUptoCardSaid : Prop := Claim7.holds Tryd.pinned (.plain (OpenSpec.upto tyfmtListsSpec)) tyfmtListsUptoCard

/-- THE SECOND FORM's CARD OF 'limbecklaw05.TyfmtOne'. -/
def tyfmtOneUptoCard : Claim7 := { stood := { row := tyfmtOneUptoRow, standIns := [], harness := (true, "78ced0776ce773f9ebab2c851008ae4b3e70eff9dc1a761a72f8914a31993de7"), looks := false }, kinds := [], alts := [], laidByText := true, laidKinds := [.data, .data, .data], laidTests := true, laidLooks := .later }
def TyfmtOneUptoCardSaid : Prop := Claim7.holds Tryd.pinned (.plain (OpenSpec.upto tyfmtOneSpec)) tyfmtOneUptoCard
end Rows
end Go.Proofs.YtiajemakpdpnaaaDoor
