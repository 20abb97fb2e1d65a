/-
  No cell of these rows narrows 'for every input' (looked for: loops, veiled, ifaces, maps, wideKeys, modest, calm, conditions, laid).
  DERIVED. THE GIVEN ROWS OF THIS SEAT. 3 by the template 'for every input the law returns true; each argument reads behind the call as it read before'; 0 by the template 'total and deterministic' (their statements: YtkkjkohmekbdbaaTotals.lean).
  GIVEN WITH THE SEED: the statements are not yours to turn. If you find one false, say at which input.
  Laid BY PROGRAM, IN A SANDBOX (cutbox-rows.mjs): the forced cells as the released guide's own fill.sh prints them over the translation 7f6b34427cc160ba… (all of the seat's roots in one cut). By AI agents, Wed Nov 11 2026. No macro, syntax, notation, axiom, sorry.
-/
import Derived.Test.YtkkjkohmekbdbaaChecked
import GoSem.Claim
import GoSem.ClaimJoined
import GoSem.ClaimMapViews
import Derived.JoinedTies
import Derived.KernelRfl
namespace Go.Proofs.Ytkkjkohmekbdbaa
/- THE CELL 'sum', in the pinned program and in every row, IS THE sha256 OF THE DUMP (.gsa) THAT YtkkjkohmekbdbaaProg.lean LOADS. Nothing in Lean hashes anything: it is a label: what it is worth is what the hold of that sum in a sandbox is worth. -/
noncomputable def Try.pinned : Pinned := { name := "ytkkjkohmekbdbaa", sum := "7f6b34427cc160ba4d27e8151577193e0b296d81e73288169d3f23549e279e98", checked := Try.checked }
namespace Rows
def none {H : Type} : Left H := { results := [], args := [] }

/-- 'compasslaw9.DagMakes': WHATEVER THE INPUT: true; the input reads as it did. -/
def dagMakesSpec : ChangeSpec := { name := "dagMakes", fn := fun _ => fun
  | [d1, d2, d3] => { results := [.lit (.bool true)], args := [d1, d2, d3] }
  | _ => none }
def dagMakesRow : OpenClaim := { program := "ytkkjkohmekbdbaa", sum := "7f6b34427cc160ba4d27e8151577193e0b296d81e73288169d3f23549e279e98", func := "compass/compasslaw9.DagMakes", spec := "dagMakes", inPlace := ["math.Float64bits"], plainKeys := false, apart := false }
def DagMakesSaid : Prop := dagMakesRow.holds Try.pinned (OpenSpec.ofChange dagMakesSpec)

/-- ITS FALSE NEIGHBOUR: 'it returns false'. Refute it at one input. -/
def dagMakesWrong : ChangeSpec := { name := "dagMakes", fn := fun _ => fun
  | [d1, d2, d3] => { results := [.lit (.bool false)], args := [d1, d2, d3] }
  | _ => none }
def DagMakesWrongFalsely : Prop := dagMakesRow.holds Try.pinned (OpenSpec.ofChange dagMakesWrong)

/-- 'compasslaw9.DagGrows': WHATEVER THE INPUT: true; the input reads as it did. -/
def dagGrowsSpec : ChangeSpec := { name := "dagGrows", fn := fun _ => fun
  | [d1, d2] => { results := [.lit (.bool true)], args := [d1, d2] }
  | _ => none }
def dagGrowsRow : OpenClaim := { program := "ytkkjkohmekbdbaa", sum := "7f6b34427cc160ba4d27e8151577193e0b296d81e73288169d3f23549e279e98", func := "compass/compasslaw9.DagGrows", spec := "dagGrows", inPlace := ["math.Float64bits"], plainKeys := false, apart := false }
def DagGrowsSaid : Prop := dagGrowsRow.holds Try.pinned (OpenSpec.ofChange dagGrowsSpec)

/-- ITS FALSE NEIGHBOUR: 'it returns false'. Refute it at one input. -/
def dagGrowsWrong : ChangeSpec := { name := "dagGrows", fn := fun _ => fun
  | [d1, d2] => { results := [.lit (.bool false)], args := [d1, d2] }
  | _ => none }
def DagGrowsWrongFalsely : Prop := dagGrowsRow.holds Try.pinned (OpenSpec.ofChange dagGrowsWrong)

/-- 'compasslaw9.DagShares': WHATEVER THE INPUT: true; the input reads as it did. -/
def dagSharesSpec : ChangeSpec := { name := "dagShares", fn := fun _ => fun
  | [d1, d2] => { results := [.lit (.bool true)], args := [d1, d2] }
  | _ => none }
def dagSharesRow : OpenClaim := { program := "ytkkjkohmekbdbaa", sum := "7f6b34427cc160ba4d27e8151577193e0b296d81e73288169d3f23549e279e98", func := "compass/compasslaw9.DagShares", spec := "dagShares", inPlace := ["math.Float64bits"], plainKeys := false, apart := false }
def DagSharesSaid : Prop := dagSharesRow.holds Try.pinned (OpenSpec.ofChange dagSharesSpec)

/-- ITS FALSE NEIGHBOUR: 'it returns false'. Refute it at one input. -/
def dagSharesWrong : ChangeSpec := { name := "dagShares", fn := fun _ => fun
  | [d1, d2] => { results := [.lit (.bool false)], args := [d1, d2] }
  | _ => none }
def DagSharesWrongFalsely : Prop := dagSharesRow.holds Try.pinned (OpenSpec.ofChange dagSharesWrong)

/- THE SECOND FORM. 'bulk': how many values and letters a reading holds, each counted each time it is reached (what is shared counts as often as it is met; a slice's spare places count too). A statement '..UptoSaid' is the law's where the arguments, and the package variables that the reading takes, are together of bulk at most 1048576: NARROWER than '..Said'. Prove '..Said' where nothing that the law and all that it calls make is longer than what came in: it says more and counts as full. Else prove '..UptoSaid'. A law counts once. -/
mutual
def uptoBulk {H : Type} : DataW H → Nat
  | .lit (.string bytes) => bytes.length + 1
  | .lit _ => 1
  | .nil => 1
  | .ptr d => uptoBulk d + 1
  | .slice elems spare => uptoBulkAll elems + uptoBulkAll spare + 1
  | .agg parts => uptoBulkAll parts + 1
  | .iface _ d => uptoBulk d + 1
  | .map entries => uptoBulkEntries entries + 1
  | .held _ => 1
def uptoBulkAll {H : Type} : List (DataW H) → Nat
  | [] => 0
  | d :: r => uptoBulk d + uptoBulkAll r
def uptoBulkEntries {H : Type} : List (Lit × DataW H) → Nat
  | [] => 0
  | x :: r => uptoBulkEntry x + uptoBulkEntries r
def uptoBulkEntry {H : Type} : Lit × DataW H → Nat
  | (.string bytes, d) => bytes.length + uptoBulk d + 1
  | (_, d) => uptoBulk d + 1
 end
def uptoSmall : (H : Type) → List (DataW H) → Bool := fun _ ds => decide (uptoBulkAll ds ≤ 1048576)
def OpenSpec.upto (s : _root_.Go.ChangeSpec) : _root_.Go.OpenSpec := { _root_.Go.OpenSpec.ofChange s with cond := some uptoSmall }

/-- 'compasslaw9.DagMakes', WHERE WHAT IT READS IS OF BULK AT MOST 1048576: true; the input reads as it did. -/
def dagMakesUptoRow : OpenClaim := { program := "ytkkjkohmekbdbaa", sum := "7f6b34427cc160ba4d27e8151577193e0b296d81e73288169d3f23549e279e98", func := "compass/compasslaw9.DagMakes", spec := "dagMakes", inPlace := ["math.Float64bits"], plainKeys := false, apart := false, narrowed := true }
def DagMakesUptoSaid : Prop := dagMakesUptoRow.holds Try.pinned (OpenSpec.upto dagMakesSpec)

/-- 'compasslaw9.DagGrows', WHERE WHAT IT READS IS OF BULK AT MOST 1048576: true; the input reads as it did. -/
def dagGrowsUptoRow : OpenClaim := { program := "ytkkjkohmekbdbaa", sum := "7f6b34427cc160ba4d27e8151577193e0b296d81e73288169d3f23549e279e98", func := "compass/compasslaw9.DagGrows", spec := "dagGrows", inPlace := ["math.Float64bits"], plainKeys := false, apart := false, narrowed := true }
def DagGrowsUptoSaid : Prop := dagGrowsUptoRow.holds Try.pinned (OpenSpec.upto dagGrowsSpec)

/-- 'compasslaw9.DagShares', WHERE WHAT IT READS IS OF BULK AT MOST 1048576: true; the input reads as it did. -/
def dagSharesUptoRow : OpenClaim := { program := "ytkkjkohmekbdbaa", sum := "7f6b34427cc160ba4d27e8151577193e0b296d81e73288169d3f23549e279e98", func := "compass/compasslaw9.DagShares", spec := "dagShares", inPlace := ["math.Float64bits"], plainKeys := false, apart := false, narrowed := true }
def DagSharesUptoSaid : Prop := dagSharesUptoRow.holds Try.pinned (OpenSpec.upto dagSharesSpec)

end Rows
end Go.Proofs.Ytkkjkohmekbdbaa
