/-
  DERIVED. GIVEN WITH THE SEED: THE CARDS: each row of YtfanhllcoaondaaGreatDoorRows.lean that lists a variable, with what it lists TIED to the program's text (the seventh form; the later family's looks); each row that meets fmt, with fmt's text TOLD by the authors' own Lean function (tested against real Go, not proved from fmt's source: count such statements apart). THE CARD IS WHAT COUNTS. Prove the row's statement (the work); the ties are given (YtfanhllcoaondaaGreatDoorTie.lean); close each card by the builder's one call (the guide's Derived/Test/ToyasCard.lean, 'card_holds'). Laid BY PROGRAM, IN A SANDBOX (cutbox-door.mjs). By AI agents, Wed Nov 11 2026. No macro, syntax, notation, axiom, sorry.
-/
import Derived.Test.YtfanhllcoaondaaGreatDoorRows
import GoSem.ClaimSeven
namespace Go.Proofs.YtfanhllcoaondaaGreatDoor
namespace Rows

/-- THE TIED CARD OF 'compasslaw1.NatTells'. -/
def natTellsCard : Claim7 := { stood := { row := natTellsRow, standIns := [], harness := (true, "a9facf86eaf76739386cc708d5368d063ded71f8c883d021b1db7522c81d4ad0"), looks := false }, kinds := [], alts := [], laidByText := true, laidKinds := [.data, .pinned], laidTests := true, laidLooks := .later }
def NatTellsCardSaid : Prop := Claim7.holds Tryz.pinned (.plain (OpenSpec.ofChange natTellsSpec)) natTellsCard

/-- THE TIED CARD OF 'compasslaw4.FloTells'. -/
def floTellsCard : Claim7 := { stood := { row := floTellsRow, standIns := [], harness := (true, "a9facf86eaf76739386cc708d5368d063ded71f8c883d021b1db7522c81d4ad0"), looks := false }, kinds := [], alts := [], laidByText := true, laidKinds := [.data, .data, .pinned], laidTests := true, laidLooks := .later }
def FloTellsCardSaid : Prop := Claim7.holds Tryz.pinned (.plain (OpenSpec.ofChange floTellsSpec)) floTellsCard

/-- THE TIED CARD OF 'compasslaw4.FloOrders'. -/
def floOrdersCard : Claim7 := { stood := { row := floOrdersRow, standIns := [], harness := (true, "a9facf86eaf76739386cc708d5368d063ded71f8c883d021b1db7522c81d4ad0"), looks := false }, kinds := [], alts := [], laidByText := true, laidKinds := [.data, .data, .pinned], laidTests := true, laidLooks := .later }
def FloOrdersCardSaid : Prop := Claim7.holds Tryz.pinned (.plain (OpenSpec.ofChange floOrdersSpec)) floOrdersCard

/-- THE SECOND FORM's CARD OF 'compasslaw1.NatTells'. -/
def natTellsUptoCard : Claim7 := { stood := { row := natTellsUptoRow, standIns := [], harness := (true, "a9facf86eaf76739386cc708d5368d063ded71f8c883d021b1db7522c81d4ad0"), looks := false }, kinds := [], alts := [], laidByText := true, laidKinds := [.data, .pinned], laidTests := true, laidLooks := .later }
def NatTellsUptoCardSaid : Prop := Claim7.holds Tryz.pinned (.plain (OpenSpec.upto natTellsSpec)) natTellsUptoCard

/-- THE SECOND FORM's CARD OF 'compasslaw4.FloTells'. -/
def floTellsUptoCard : Claim7 := { stood := { row := floTellsUptoRow, standIns := [], harness := (true, "a9facf86eaf76739386cc708d5368d063ded71f8c883d021b1db7522c81d4ad0"), looks := false }, kinds := [], alts := [], laidByText := true, laidKinds := [.data, .data, .pinned], laidTests := true, laidLooks := .later }
def FloTellsUptoCardSaid : Prop := Claim7.holds Tryz.pinned (.plain (OpenSpec.upto floTellsSpec)) floTellsUptoCard

/-- THE SECOND FORM's CARD OF 'compasslaw4.FloOrders'. -/
def floOrdersUptoCard : Claim7 := { stood := { row := floOrdersUptoRow, standIns := [], harness := (true, "a9facf86eaf76739386cc708d5368d063ded71f8c883d021b1db7522c81d4ad0"), looks := false }, kinds := [], alts := [], laidByText := true, laidKinds := [.data, .data, .pinned], laidTests := true, laidLooks := .later }
def FloOrdersUptoCardSaid : Prop := Claim7.holds Tryz.pinned (.plain (OpenSpec.upto floOrdersSpec)) floOrdersUptoCard
end Rows
end Go.Proofs.YtfanhllcoaondaaGreatDoor
