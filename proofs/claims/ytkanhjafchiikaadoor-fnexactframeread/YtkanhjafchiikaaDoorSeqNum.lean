/- The reader's numbers one behind the other. -/
import Derived.Test.YtkanhjafchiikaaDoorSpecReader
import Derived.Test.YtkanhjafchiikaaDoorTextsD
namespace Go.Proofs.YtkanhjafchiikaaDoor.Frm
open Go.RowKit Go.Proofs.YtkanhjafchiikaaDoor.Mem Go.Proofs.YtkanhjafchiikaaDoor.Gf Go.Proofs.YtkanhjafchiikaaDoor.Harn Go.Proofs.YtkanhjafchiikaaDoor.Disk Go.Proofs.YtkanhjafchiikaaDoor.GetText

theorem seq_any (R : Nat) (s : ByteArray) (l : List (Int × Int)) (k : Nat) (w : World) (hk : k < 7) (hv : Sev s l) (hr : Rdr w R s (atAt l k) (badAt l k)) :
    Calls Tryd.prog 8 #[.pointer (some ⟨R, 0, none⟩)] w fun e w' => e = .returned (.int .i64 (valAt l k)) ∧ Rdr w' R s (atAt l (k + 1)) (badAt l (k + 1)) ∧ Only (fun k => k = R) w w' := by
  obtain ⟨n, p, c, hn, h1, h2⟩ := hv.at k hk
  have h := num_any R s (atAt l k) n p c (badAt l k) w hr hn
  rcases Nat.lt_or_ge k l.length with h3 | h3
  · obtain ⟨rfl, rfl, rfl⟩ := h1 h3
    have e1 : badAt l k = false := by unfold badAt; simp; omega
    have e2 : badAt l (k + 1) = false := by unfold badAt; simp; omega
    rw [e1] at h
    rw [e2]
    simpa using h
  · obtain ⟨hc, hv0, ha⟩ := h2 h3
    have e2 : badAt l (k + 1) = true := by unfold badAt; simp; omega
    rw [e2, hv0, ha]
    simpa [hc] using h

/-- the world behind the first k of the reader's calls: what was made first stays, the reader has read k -/
structure Seqd (w W : World) (R : Nat) (s : ByteArray) (l : List (Int × Int)) (k : Nat) : Prop where
  bel : Below w.heap.size w W
  le : w.heap.size ≤ R
  rdr : Rdr W R s (atAt l k) (badAt l k)
theorem Seqd.next {w W W' : World} {R : Nat} {s : ByteArray} {l : List (Int × Int)} {k : Nat} (h : Seqd w W R s l k) (ho : Only (fun k => k = R) W W') (hr : Rdr W' R s (atAt l (k + 1)) (badAt l (k + 1))) : Seqd w W' R s l (k + 1) :=
  ⟨ho.below h.bel h.bel.size (fun b hb e => by have := h.le; omega), h.le, hr⟩
end Go.Proofs.YtkanhjafchiikaaDoor.Frm
