/- A source, and what was there, where only some blocks have turned. -/
import Derived.Test.YtonmghpmgjfelaaOwnDisk
import Derived.Test.YtonmghpmgjfelaaSource
namespace Go.Proofs.Ytonmghpmgjfelaa.Disk
open Go.RowKit Go.Proofs.Ytonmghpmgjfelaa.Mem Go.Proofs.Ytonmghpmgjfelaa.Harn Go.Proofs.Ytonmghpmgjfelaa.Draw

theorem src_only {p : Nat → Prop} {W W' : World} {g : Nat} {a : Option Addr} {len cap : Nat} {zs : List Int} (h : Draw.Src W g a len cap zs) (hg : Only p W W') (hp : ∀ k, k ≤ g → ¬ p k) : Draw.Src W' g a len cap zs :=
  src_below (B := g + 1) h ⟨hg.os, hg.tape, hg.output, hg.size, fun k hk => hg.block k (by have := src_lt h; omega) (hp k (by omega))⟩ (by omega)
theorem only_W {p : Nat → Prop} {W wr wc : World} {g : Nat} (hg : Only (fun b => b = g) W wr) (hA : Only p wr wc) (hp : ∀ k, k < W.heap.size → k ≠ g → ¬ p k) : Only (fun b => b = g) W wc :=
  ⟨hA.os.trans hg.os, hA.tape.trans hg.tape, hA.output.trans hg.output, Nat.le_trans hg.size hA.size, fun k hk hn => (hA.block k (Nat.lt_of_lt_of_le hk hg.size) (hp k hk hn)).trans (hg.block k hk hn)⟩

end Go.Proofs.Ytonmghpmgjfelaa.Disk
