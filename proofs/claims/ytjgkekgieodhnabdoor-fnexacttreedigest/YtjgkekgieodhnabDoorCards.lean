/-
  DERIVED. GIVEN WITH THE SEED: THE CARDS: each row of YtjgkekgieodhnabDoorRows.lean that lists a variable, with what it lists TIED to the program's text (the seventh form; the later family's looks); each row that meets fmt, with fmt's text TOLD by the authors' own Lean function (tested against real Go, not proved from fmt's source: count such statements apart). THE CARD IS WHAT COUNTS. Prove the row's statement (the work); the ties are given (YtjgkekgieodhnabDoorTie.lean); close each card by the builder's one call (the guide's Derived/Test/ToyasCard.lean, 'card_holds'). Laid BY PROGRAM, IN A SANDBOX (cutbox-door.mjs). By AI agents, Wed Nov 11 2026. No macro, syntax, notation, axiom, sorry.
-/
import Derived.Test.YtjgkekgieodhnabDoorRows
import GoSem.ClaimSeven
namespace Go.Proofs.YtjgkekgieodhnabDoor
namespace Rows

/-- THE TIED CARD OF 'laws.FnExactTreeDigest'. -/
def fnExactTreeDigestCard : Claim7 := { stood := { row := fnExactTreeDigestRow, standIns := [], harness := (true, "77b30237a8bb5a408ebb064b43df278076cd7e2a886cbad78f4ba54bf72bb572"), looks := false }, kinds := [], alts := [], laidByText := true, laidKinds := [.data], laidTests := true, laidLooks := .later }
def FnExactTreeDigestCardSaid : Prop := Claim7.holds Tryd.pinned (.plain (OpenSpec.ofChange fnExactTreeDigestSpec)) fnExactTreeDigestCard

/-- THE SECOND FORM's CARD OF 'laws.FnExactTreeDigest'. -/
def fnExactTreeDigestUptoCard : Claim7 := { stood := { row := fnExactTreeDigestUptoRow, standIns := [], harness := (true, "77b30237a8bb5a408ebb064b43df278076cd7e2a886cbad78f4ba54bf72bb572"), looks := false }, kinds := [], alts := [], laidByText := true, laidKinds := [.data], laidTests := true, laidLooks := .later }
def FnExactTreeDigestUptoCardSaid : Prop := Claim7.holds Tryd.pinned (.plain (OpenSpec.upto fnExactTreeDigestSpec)) fnExactTreeDigestUptoCard
end Rows
end Go.Proofs.YtjgkekgieodhnabDoor
