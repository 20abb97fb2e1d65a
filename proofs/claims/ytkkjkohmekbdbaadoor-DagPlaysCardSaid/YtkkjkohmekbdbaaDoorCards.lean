/-
  DERIVED. GIVEN WITH THE SEED: THE CARDS: each row of YtkkjkohmekbdbaaDoorRows.lean that lists a variable, with what it lists TIED to the program's text (the seventh form; the later family's looks); each row that meets fmt, with fmt's text TOLD by the authors' own Lean function (tested against real Go, not proved from fmt's source: count such statements apart). THE CARD IS WHAT COUNTS. Prove the row's statement (the work); the ties are given (YtkkjkohmekbdbaaDoorTie.lean); close each card by the builder's one call (the guide's Derived/Test/ToyasCard.lean, 'card_holds'). Laid BY PROGRAM, IN A SANDBOX (cutbox-door.mjs). By AI agents, Wed Nov 11 2026. No macro, syntax, notation, axiom, sorry.
-/
import Derived.Test.YtkkjkohmekbdbaaDoorRows
import GoSem.ClaimSeven
namespace Go.Proofs.YtkkjkohmekbdbaaDoor
namespace Rows

/-- THE TIED CARD OF 'compasslaw9.DagPlays'. -/
def dagPlaysCard : Claim7 := { stood := { row := dagPlaysRow, standIns := [], harness := (true, "2b91f78bba75e993ba69239740bbbac192e2f184983531bae0ddbb12bd08b81a"), looks := true }, kinds := [], alts := [], laidByText := true, laidKinds := [.handle], laidTests := true, laidLooks := .later }
def DagPlaysCardSaid : Prop := Claim7.holds Tryd.pinned (.plain (OpenSpec.ofChange dagPlaysSpec)) dagPlaysCard

/-- THE SECOND FORM's CARD OF 'compasslaw9.DagPlays'. -/
def dagPlaysUptoCard : Claim7 := { stood := { row := dagPlaysUptoRow, standIns := [], harness := (true, "2b91f78bba75e993ba69239740bbbac192e2f184983531bae0ddbb12bd08b81a"), looks := true }, kinds := [], alts := [], laidByText := true, laidKinds := [.handle], laidTests := true, laidLooks := .later }
def DagPlaysUptoCardSaid : Prop := Claim7.holds Tryd.pinned (.plain (OpenSpec.upto dagPlaysSpec)) dagPlaysUptoCard
end Rows
end Go.Proofs.YtkkjkohmekbdbaaDoor
