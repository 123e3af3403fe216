/-
  DERIVED. GIVEN WITH THE SEED: THE CARDS: each row of YtnfidmjplhmblaaDoorRows.lean that lists a variable, with what it lists TIED to the program's text (the seventh form; the later family's looks); each row that meets fmt, with fmt's text TOLD by the authors' own Lean function (tested against real Go, not proved from fmt's source: count such statements apart). THE CARD IS WHAT COUNTS. Prove the row's statement (the work); the ties are given (YtnfidmjplhmblaaDoorTie.lean); close each card by the builder's one call (the guide's Derived/Test/ToyasCard.lean, 'card_holds'). Laid BY PROGRAM, IN A SANDBOX (cutbox-door.mjs). By AI agents, Wed Nov 11 2026. No macro, syntax, notation, axiom, sorry.
-/
import Derived.Test.YtnfidmjplhmblaaDoorRows
import GoSem.ClaimSeven
namespace Go.Proofs.YtnfidmjplhmblaaDoor
namespace Rows

/-- THE TIED CARD OF 'laws.FnExactAreaRead'. -/
def fnExactAreaReadCard : Claim7 := { stood := { row := fnExactAreaReadRow, standIns := [], harness := (true, "b8a12ff354ea86a274d8cec0eb5e639cdd54503a9eeb96bcbb5e05d6de097ebb"), looks := true }, kinds := [], alts := [], laidByText := true, laidKinds := [.handle, .sentinel, .sentinel, .sentinel, .sentinel, .sentinel, .sentinel], laidTests := true, laidLooks := .later }
def FnExactAreaReadCardSaid : Prop := Claim7.holds Tryd.pinned (.plain (OpenSpec.ofChange fnExactAreaReadSpec)) fnExactAreaReadCard

/-- THE SECOND FORM's CARD OF 'laws.FnExactAreaRead'. -/
def fnExactAreaReadUptoCard : Claim7 := { stood := { row := fnExactAreaReadUptoRow, standIns := [], harness := (true, "b8a12ff354ea86a274d8cec0eb5e639cdd54503a9eeb96bcbb5e05d6de097ebb"), looks := true }, kinds := [], alts := [], laidByText := true, laidKinds := [.handle, .sentinel, .sentinel, .sentinel, .sentinel, .sentinel, .sentinel], laidTests := true, laidLooks := .later }
def FnExactAreaReadUptoCardSaid : Prop := Claim7.holds Tryd.pinned (.plain (OpenSpec.upto fnExactAreaReadSpec)) fnExactAreaReadUptoCard
end Rows
end Go.Proofs.YtnfidmjplhmblaaDoor
