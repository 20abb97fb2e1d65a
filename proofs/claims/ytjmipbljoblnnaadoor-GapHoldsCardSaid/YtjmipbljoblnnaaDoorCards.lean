/-
  DERIVED. GIVEN WITH THE SEED: THE CARDS: each row of YtjmipbljoblnnaaDoorRows.lean that lists a variable, with what it lists TIED to the program's text (the seventh form; the later family's looks); each row that meets fmt, with fmt's text TOLD by the authors' own Lean function (tested against real Go, not proved from fmt's source: count such statements apart). THE CARD IS WHAT COUNTS. Prove the row's statement (the work); the ties are given (YtjmipbljoblnnaaDoorTie.lean); close each card by the builder's one call (the guide's Derived/Test/ToyasCard.lean, 'card_holds'). Laid BY PROGRAM, IN A SANDBOX (cutbox-door.mjs). By AI agents, Wed Nov 11 2026. No macro, syntax, notation, axiom, sorry.
-/
import Derived.Test.YtjmipbljoblnnaaDoorRows
import GoSem.ClaimSeven
namespace Go.Proofs.YtjmipbljoblnnaaDoor
namespace Rows

/-- THE TIED CARD OF 'compasslaw7.GapHolds'. -/
def gapHoldsCard : Claim7 := { stood := { row := gapHoldsRow, standIns := [], harness := (true, "a78a93775d0871b58cfc13364f6bcfe8725043023729fcd812d02a2b8a6264df"), looks := false }, kinds := [], alts := [], laidByText := true, laidKinds := [.data], laidTests := true, laidLooks := .later }
def GapHoldsCardSaid : Prop := Claim7.holds Tryd.pinned (.plain (OpenSpec.ofChange gapHoldsSpec)) gapHoldsCard

/-- THE SECOND FORM's CARD OF 'compasslaw7.GapHolds'. -/
def gapHoldsUptoCard : Claim7 := { stood := { row := gapHoldsUptoRow, standIns := [], harness := (true, "a78a93775d0871b58cfc13364f6bcfe8725043023729fcd812d02a2b8a6264df"), looks := false }, kinds := [], alts := [], laidByText := true, laidKinds := [.data], laidTests := true, laidLooks := .later }
def GapHoldsUptoCardSaid : Prop := Claim7.holds Tryd.pinned (.plain (OpenSpec.upto gapHoldsSpec)) gapHoldsUptoCard
end Rows
end Go.Proofs.YtjmipbljoblnnaaDoor
