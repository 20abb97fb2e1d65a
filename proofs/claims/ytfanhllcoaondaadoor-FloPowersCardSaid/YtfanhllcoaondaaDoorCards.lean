/-
  DERIVED. GIVEN WITH THE SEED: THE CARDS: each row of YtfanhllcoaondaaDoorRows.lean that lists a variable, with what it lists TIED to the program's text (the seventh form; the later family's looks); each row that meets fmt, with fmt's text TOLD by the authors' own Lean function (tested against real Go, not proved from fmt's source: count such statements apart). THE CARD IS WHAT COUNTS. Prove the row's statement (the work); the ties are given (YtfanhllcoaondaaDoorTie.lean); close each card by the builder's one call (the guide's Derived/Test/ToyasCard.lean, 'card_holds'). Laid BY PROGRAM, IN A SANDBOX (cutbox-door.mjs). By AI agents, Wed Nov 11 2026. No macro, syntax, notation, axiom, sorry.
-/
import Derived.Test.YtfanhllcoaondaaDoorRows
import GoSem.ClaimSeven
namespace Go.Proofs.YtfanhllcoaondaaDoor
namespace Rows

/-- THE TIED CARD OF 'compasslaw2.WholeTells'. -/
def wholeTellsCard : Claim7 := { stood := { row := wholeTellsRow, standIns := [], harness := (true, "d6c7698dbaeabbd12f7203826e3e376836f483bb547ad70cf201348692038e70"), looks := false }, kinds := [], alts := [], laidByText := true, laidKinds := [.data, .pinned], laidTests := true, laidLooks := .later }
def WholeTellsCardSaid : Prop := Claim7.holds Tryd.pinned (.plain (OpenSpec.ofChange wholeTellsSpec)) wholeTellsCard

/-- THE TIED CARD OF 'compasslaw2.WholeShifts'. -/
def wholeShiftsCard : Claim7 := { stood := { row := wholeShiftsRow, standIns := [], harness := (true, "d6c7698dbaeabbd12f7203826e3e376836f483bb547ad70cf201348692038e70"), looks := false }, kinds := [], alts := [], laidByText := true, laidKinds := [.data, .data, .pinned], laidTests := true, laidLooks := .later }
def WholeShiftsCardSaid : Prop := Claim7.holds Tryd.pinned (.plain (OpenSpec.ofChange wholeShiftsSpec)) wholeShiftsCard

/-- THE TIED CARD OF 'compasslaw4.FloBetween'. -/
def floBetweenCard : Claim7 := { stood := { row := floBetweenRow, standIns := [], harness := (true, "d6c7698dbaeabbd12f7203826e3e376836f483bb547ad70cf201348692038e70"), looks := false }, kinds := [], alts := [], laidByText := true, laidKinds := [.data, .data, .pinned], laidTests := true, laidLooks := .later }
def FloBetweenCardSaid : Prop := Claim7.holds Tryd.pinned (.plain (OpenSpec.ofChange floBetweenSpec)) floBetweenCard

/-- THE TIED CARD OF 'compasslaw4.FloPowers'. -/
def floPowersCard : Claim7 := { stood := { row := floPowersRow, standIns := [], harness := (true, "d6c7698dbaeabbd12f7203826e3e376836f483bb547ad70cf201348692038e70"), looks := false }, kinds := [], alts := [], laidByText := true, laidKinds := [.data, .data, .pinned], laidTests := true, laidLooks := .later }
def FloPowersCardSaid : Prop := Claim7.holds Tryd.pinned (.plain (OpenSpec.ofChange floPowersSpec)) floPowersCard

/-- THE SECOND FORM's CARD OF 'compasslaw2.WholeTells'. -/
def wholeTellsUptoCard : Claim7 := { stood := { row := wholeTellsUptoRow, standIns := [], harness := (true, "d6c7698dbaeabbd12f7203826e3e376836f483bb547ad70cf201348692038e70"), looks := false }, kinds := [], alts := [], laidByText := true, laidKinds := [.data, .pinned], laidTests := true, laidLooks := .later }
def WholeTellsUptoCardSaid : Prop := Claim7.holds Tryd.pinned (.plain (OpenSpec.upto wholeTellsSpec)) wholeTellsUptoCard

/-- THE SECOND FORM's CARD OF 'compasslaw2.WholeShifts'. -/
def wholeShiftsUptoCard : Claim7 := { stood := { row := wholeShiftsUptoRow, standIns := [], harness := (true, "d6c7698dbaeabbd12f7203826e3e376836f483bb547ad70cf201348692038e70"), looks := false }, kinds := [], alts := [], laidByText := true, laidKinds := [.data, .data, .pinned], laidTests := true, laidLooks := .later }
def WholeShiftsUptoCardSaid : Prop := Claim7.holds Tryd.pinned (.plain (OpenSpec.upto wholeShiftsSpec)) wholeShiftsUptoCard

/-- THE SECOND FORM's CARD OF 'compasslaw4.FloBetween'. -/
def floBetweenUptoCard : Claim7 := { stood := { row := floBetweenUptoRow, standIns := [], harness := (true, "d6c7698dbaeabbd12f7203826e3e376836f483bb547ad70cf201348692038e70"), looks := false }, kinds := [], alts := [], laidByText := true, laidKinds := [.data, .data, .pinned], laidTests := true, laidLooks := .later }
def FloBetweenUptoCardSaid : Prop := Claim7.holds Tryd.pinned (.plain (OpenSpec.upto floBetweenSpec)) floBetweenUptoCard

/-- THE SECOND FORM's CARD OF 'compasslaw4.FloPowers'. -/
def floPowersUptoCard : Claim7 := { stood := { row := floPowersUptoRow, standIns := [], harness := (true, "d6c7698dbaeabbd12f7203826e3e376836f483bb547ad70cf201348692038e70"), looks := false }, kinds := [], alts := [], laidByText := true, laidKinds := [.data, .data, .pinned], laidTests := true, laidLooks := .later }
def FloPowersUptoCardSaid : Prop := Claim7.holds Tryd.pinned (.plain (OpenSpec.upto floPowersSpec)) floPowersUptoCard
end Rows
end Go.Proofs.YtfanhllcoaondaaDoor
