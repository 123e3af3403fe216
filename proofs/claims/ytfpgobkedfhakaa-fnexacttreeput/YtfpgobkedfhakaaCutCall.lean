/- A drawn region in which calls come ahead of operations that their guard passes over: the walk is cut behind the last call, and what is left goes step by step. -/
import Derived.Deep.RegionHeld3
import Derived.WalkKit
namespace Go.Proofs.Ytfpgobkedfhakaa.CutCall
open Go Go.RowKit

/-- The way back into the region, cut. -/
def Cut (p : Prop) : Prop := p
theorem Cut.out {p : Prop} (h : Cut p) : p := h
theorem shut_cut {P : Program} {ops : Array Oper} {Q : Exit → Act → World → Prop} {md : Region.Mode} {S : World → Prop} {fuel : Nat} {L : Array Bool} {K : Act → World → Prop} :
    Shut (∀ a w, S w → (S w → wpAnyH P md ops Q S fuel L a w) → K a w) = Cut (∀ a w, S w → (S w → wpAnyH P md #[] (NoPanic (fun _ a w => Hid (wpAnyH P md ops Q S fuel L a w))) S 0 #[] a w) → K a w) :=
  propext ⟨fun h a w hS k => h.out a w hS (fun hs => (k hs).2), fun h a w hS k => h.out a w hS (fun hs => ⟨by cases md <;> rfl, k hs⟩)⟩
end Go.Proofs.Ytfpgobkedfhakaa.CutCall
