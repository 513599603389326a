/-
  DERIVED. GIVEN WITH THE SEED: THE CARDS: each row of YtdafpnpfcmgfcabGreatDoorRows.lean that lists a variable, with what it lists TIED to the program's text (the seventh form; the later family's looks); each row that meets fmt, with fmt's text TOLD by the authors' own Lean function (tested against real Go, not proved from fmt's source: count such statements apart). THE CARD IS WHAT COUNTS. Prove the row's statement (the work); the ties are given (YtdafpnpfcmgfcabGreatDoorTie.lean); close each card by the builder's one call (the guide's Derived/Test/ToyasCard.lean, 'card_holds'). Laid BY PROGRAM, IN A SANDBOX (cutbox-door.mjs). By AI agents, Wed Nov 11 2026. No macro, syntax, notation, axiom, sorry.
-/
import Derived.Test.YtdafpnpfcmgfcabGreatDoorRows
import GoSem.ClaimSeven
namespace Go.Proofs.YtdafpnpfcmgfcabGreatDoor
namespace Rows

/-- THE TIED CARD OF 'laws.FnExactShareAsk'. -/
def fnExactShareAskCard : Claim7 := { stood := { row := fnExactShareAskRow, standIns := [], harness := (true, "d56f0b3a10f9ed45b16d24cd436a932a356d565a8daa1bb24fb1985f628cf16a"), looks := true }, kinds := [], alts := [], laidByText := true, laidKinds := [.handle], laidTests := true, laidLooks := .later }
def FnExactShareAskCardSaid : Prop := Claim7.holds Tryz.pinned (.plain (OpenSpec.ofChange fnExactShareAskSpec)) fnExactShareAskCard

/-- THE TIED CARD OF 'laws.FnExactShareLess'. -/
def fnExactShareLessCard : Claim7 := { stood := { row := fnExactShareLessRow, standIns := [], harness := (true, "d56f0b3a10f9ed45b16d24cd436a932a356d565a8daa1bb24fb1985f628cf16a"), looks := true }, kinds := [], alts := [], laidByText := true, laidKinds := [.handle], laidTests := true, laidLooks := .later }
def FnExactShareLessCardSaid : Prop := Claim7.holds Tryz.pinned (.plain (OpenSpec.ofChange fnExactShareLessSpec)) fnExactShareLessCard

/-- THE TIED CARD OF 'laws.FnExactShareLeave'. -/
def fnExactShareLeaveCard : Claim7 := { stood := { row := fnExactShareLeaveRow, standIns := [], harness := (true, "d56f0b3a10f9ed45b16d24cd436a932a356d565a8daa1bb24fb1985f628cf16a"), looks := true }, kinds := [], alts := [], laidByText := true, laidKinds := [.handle], laidTests := true, laidLooks := .later }
def FnExactShareLeaveCardSaid : Prop := Claim7.holds Tryz.pinned (.plain (OpenSpec.ofChange fnExactShareLeaveSpec)) fnExactShareLeaveCard

/-- THE SECOND FORM's CARD OF 'laws.FnExactShareAsk'. -/
def fnExactShareAskUptoCard : Claim7 := { stood := { row := fnExactShareAskUptoRow, standIns := [], harness := (true, "d56f0b3a10f9ed45b16d24cd436a932a356d565a8daa1bb24fb1985f628cf16a"), looks := true }, kinds := [], alts := [], laidByText := true, laidKinds := [.handle], laidTests := true, laidLooks := .later }
def FnExactShareAskUptoCardSaid : Prop := Claim7.holds Tryz.pinned (.plain (OpenSpec.upto fnExactShareAskSpec)) fnExactShareAskUptoCard

/-- THE SECOND FORM's CARD OF 'laws.FnExactShareLess'. -/
def fnExactShareLessUptoCard : Claim7 := { stood := { row := fnExactShareLessUptoRow, standIns := [], harness := (true, "d56f0b3a10f9ed45b16d24cd436a932a356d565a8daa1bb24fb1985f628cf16a"), looks := true }, kinds := [], alts := [], laidByText := true, laidKinds := [.handle], laidTests := true, laidLooks := .later }
def FnExactShareLessUptoCardSaid : Prop := Claim7.holds Tryz.pinned (.plain (OpenSpec.upto fnExactShareLessSpec)) fnExactShareLessUptoCard

/-- THE SECOND FORM's CARD OF 'laws.FnExactShareLeave'. -/
def fnExactShareLeaveUptoCard : Claim7 := { stood := { row := fnExactShareLeaveUptoRow, standIns := [], harness := (true, "d56f0b3a10f9ed45b16d24cd436a932a356d565a8daa1bb24fb1985f628cf16a"), looks := true }, kinds := [], alts := [], laidByText := true, laidKinds := [.handle], laidTests := true, laidLooks := .later }
def FnExactShareLeaveUptoCardSaid : Prop := Claim7.holds Tryz.pinned (.plain (OpenSpec.upto fnExactShareLeaveSpec)) fnExactShareLeaveUptoCard
end Rows
end Go.Proofs.YtdafpnpfcmgfcabGreatDoor
