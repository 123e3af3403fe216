/- Laws on a slice of bytes that the call itself appends to. -/
import Derived.Test.YtfpgobkedfhakaaMemLaws
namespace Go.Proofs.Ytfpgobkedfhakaa.Mem
open Go.RowKit

/-- The slice v is of the call's own memory and holds the bytes l. -/
def OwnsB (w : World) (base : Nat) (e : TypeId) (v : Value) (l : List UInt8) : Prop := w.ownsRow base e 1 v l.length (Lib.byteCells l)

theorem length_byteCells (l : List UInt8) : (Lib.byteCells l).length = l.length := by simp [Lib.byteCells]

theorem own_empty (w : World) (base : Nat) (e : TypeId) (h : base ≤ w.heap.size) : OwnsB (w.alloc (.cells #[] e)) base e (.slice (some ⟨w.heap.size, 0, none⟩) 0 0) [] :=
  w.ownsRow_made #[] 0 h (by unfold maxLen; omega) (by simp)

/-- Behind an append of one byte. -/
theorem own_step {w wr w1 : World} {base : Nat} {e : TypeId} {v v' : Value} {l : List UInt8} {b : UInt8} {n : Int} {o : Obj} (hown : OwnsB wr base e v l) (hbel : Below base w wr) (hB : base ≤ wr.heap.size)
    (hn : n = (b.toNat : Int)) (h1 : w1.ownsRow base e 1 v' (l.length + 1) (Lib.byteCells l ++ [.int .u8 n])) (hg : (wr.alloc o).grownBy w1 v.ownBlock) : OwnsB w1 base e v' (l ++ [b]) ∧ Below base w w1 := by
  refine ⟨?_, ?_⟩
  · unfold OwnsB
    subst hn
    simpa [Lib.byteCells] using h1
  · refine (hbel.alloc hB o).grown hg (by simp; omega) (fun k hk => ?_)
    exact (World.ownsRow.lt hown k hk).1

/-- 'string(b)' of such a slice that is not empty. -/
theorem own_text {P : Program} (src dst e : TypeId) (hs : P.underlying src = some (.slice e)) (he : P.underlying e = some (.int .u8)) (hd : P.underlying dst = some .string)
    {W : World} {base : Nat} {v : Value} {l : List UInt8} (hl : l ≠ []) (h : OwnsB W base e v l) : (convert src dst v).run P W = .ok (.string ⟨l.toArray⟩) W := by
  have hc := fun g hg => World.ownsRow.cells h (g := g) hg
  obtain ⟨_, h2⟩ := h
  rcases h2 with ⟨_, h0⟩ | ⟨g, cap, cur, rfl, _⟩
  · exact absurd (List.eq_nil_of_length_eq_zero h0) hl
  · refine run_convert_bytes_back W src dst e _ cap l hs he hd ?_
    intro j hj
    refine hc g rfl j _ ?_
    simp [Lib.byteCells, hj]
end Go.Proofs.Ytfpgobkedfhakaa.Mem
