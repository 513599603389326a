/-
  DERIVED. GIVEN WITH THE SEED: THE CARDS: each row of YtdafpnpfcmgfcaaGreatDoorRows.lean that lists a variable, with what it lists TIED to the program's text (the seventh form; the later family's looks); each row that meets fmt, with fmt's text TOLD by the authors' own Lean function (tested against real Go, not proved from fmt's source: count such statements apart). THE CARD IS WHAT COUNTS. Prove the row's statement (the work); the ties are given (YtdafpnpfcmgfcaaGreatDoorTie.lean); close each card by the builder's one call (the guide's Derived/Test/ToyasCard.lean, 'card_holds'). Laid BY PROGRAM, IN A SANDBOX (cutbox-door.mjs). By AI agents, Wed Nov 11 2026. No macro, syntax, notation, axiom, sorry.
-/
import Derived.Test.YtdafpnpfcmgfcaaGreatDoorRows
import GoSem.ClaimSeven
namespace Go.Proofs.YtdafpnpfcmgfcaaGreatDoor
namespace Rows

/-- THE TIED CARD OF 'laws.FnTop'. -/
def fnTopCard : Claim7 := { stood := { row := fnTopRow, standIns := [], harness := (true, "ba313224ed9f85118ff59a47972c43f5d636cf12dfec5f4e652611bf4dcaa330"), looks := true }, kinds := [], alts := [], goes := true, laidByText := true, laidKinds := [.handle], laidTests := true, laidLooks := .later }
def FnTopCardSaid : Prop := Claim7.holds Tryz.pinned (.plain (OpenSpec.ofChange fnTopSpec)) fnTopCard

/-- THE TIED CARD OF 'laws.FnAsk'. -/
def fnAskCard : Claim7 := { stood := { row := fnAskRow, standIns := [], harness := (true, "ba313224ed9f85118ff59a47972c43f5d636cf12dfec5f4e652611bf4dcaa330"), looks := true }, kinds := [], alts := [], goes := true, laidByText := true, laidKinds := [.handle], laidTests := true, laidLooks := .later }
def FnAskCardSaid : Prop := Claim7.holds Tryz.pinned (.plain (OpenSpec.ofChange fnAskSpec)) fnAskCard

/-- THE TIED CARD OF 'laws.FnLess'. -/
def fnLessCard : Claim7 := { stood := { row := fnLessRow, standIns := [], harness := (true, "ba313224ed9f85118ff59a47972c43f5d636cf12dfec5f4e652611bf4dcaa330"), looks := true }, kinds := [], alts := [], goes := true, laidByText := true, laidKinds := [.handle], laidTests := true, laidLooks := .later }
def FnLessCardSaid : Prop := Claim7.holds Tryz.pinned (.plain (OpenSpec.ofChange fnLessSpec)) fnLessCard

/-- THE TIED CARD OF 'laws.FnExactShareEnter'. -/
def fnExactShareEnterCard : Claim7 := { stood := { row := fnExactShareEnterRow, standIns := [], harness := (true, "ba313224ed9f85118ff59a47972c43f5d636cf12dfec5f4e652611bf4dcaa330"), looks := true }, kinds := [], alts := [], goes := true, laidByText := true, laidKinds := [.handle], laidTests := true, laidLooks := .later }
def FnExactShareEnterCardSaid : Prop := Claim7.holds Tryz.pinned (.plain (OpenSpec.ofChange fnExactShareEnterSpec)) fnExactShareEnterCard

/-- THE SECOND FORM's CARD OF 'laws.FnTop'. -/
def fnTopUptoCard : Claim7 := { stood := { row := fnTopUptoRow, standIns := [], harness := (true, "ba313224ed9f85118ff59a47972c43f5d636cf12dfec5f4e652611bf4dcaa330"), looks := true }, kinds := [], alts := [], goes := true, laidByText := true, laidKinds := [.handle], laidTests := true, laidLooks := .later }
def FnTopUptoCardSaid : Prop := Claim7.holds Tryz.pinned (.plain (OpenSpec.upto fnTopSpec)) fnTopUptoCard

/-- THE SECOND FORM's CARD OF 'laws.FnAsk'. -/
def fnAskUptoCard : Claim7 := { stood := { row := fnAskUptoRow, standIns := [], harness := (true, "ba313224ed9f85118ff59a47972c43f5d636cf12dfec5f4e652611bf4dcaa330"), looks := true }, kinds := [], alts := [], goes := true, laidByText := true, laidKinds := [.handle], laidTests := true, laidLooks := .later }
def FnAskUptoCardSaid : Prop := Claim7.holds Tryz.pinned (.plain (OpenSpec.upto fnAskSpec)) fnAskUptoCard

/-- THE SECOND FORM's CARD OF 'laws.FnLess'. -/
def fnLessUptoCard : Claim7 := { stood := { row := fnLessUptoRow, standIns := [], harness := (true, "ba313224ed9f85118ff59a47972c43f5d636cf12dfec5f4e652611bf4dcaa330"), looks := true }, kinds := [], alts := [], goes := true, laidByText := true, laidKinds := [.handle], laidTests := true, laidLooks := .later }
def FnLessUptoCardSaid : Prop := Claim7.holds Tryz.pinned (.plain (OpenSpec.upto fnLessSpec)) fnLessUptoCard

/-- THE SECOND FORM's CARD OF 'laws.FnExactShareEnter'. -/
def fnExactShareEnterUptoCard : Claim7 := { stood := { row := fnExactShareEnterUptoRow, standIns := [], harness := (true, "ba313224ed9f85118ff59a47972c43f5d636cf12dfec5f4e652611bf4dcaa330"), looks := true }, kinds := [], alts := [], goes := true, laidByText := true, laidKinds := [.handle], laidTests := true, laidLooks := .later }
def FnExactShareEnterUptoCardSaid : Prop := Claim7.holds Tryz.pinned (.plain (OpenSpec.upto fnExactShareEnterSpec)) fnExactShareEnterUptoCard
end Rows
end Go.Proofs.YtdafpnpfcmgfcaaGreatDoor
