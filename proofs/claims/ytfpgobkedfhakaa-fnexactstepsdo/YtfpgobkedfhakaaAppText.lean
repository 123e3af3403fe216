/- 'append(b, s...)' of a text to bytes of the call's own, and the text of these. -/
import Derived.Test.YtfpgobkedfhakaaOwnBytes
import Derived.Lib.AppendStr
import Derived.WalkKit
import Derived.Test.YtfpgobkedfhakaaOwnDisk
namespace Go.Proofs.Ytfpgobkedfhakaa.Disk
open Go.RowKit Go.Proofs.Ytfpgobkedfhakaa.Mem

theorem infoB : (Try.prog.info? 5).map (fun i => (i.zero, i.size, i.bytes)) = some (some (.int .u8 0), 1, 1) := by kernel_rfl
theorem underB : Try.prog.underlying 121 = some (.slice 5) := by kernel_rfl
theorem underTx : Try.prog.underlying 9 = some .string := by kernel_rfl
theorem underU8 : Try.prog.underlying 5 = some (.int .u8) := by kernel_rfl
theorem ownB_shape {W : World} {base : Nat} {e : TypeId} {v : Value} {l : List UInt8} (h : OwnsB W base e v l) (hv : v ≠ .slice none 0 0) : ∃ g cap, v = .slice (some ⟨g, 0, none⟩) l.length cap ∧ base ≤ g ∧ g < W.heap.size := by
  have hlt := World.ownsRow.lt h
  rcases h.2 with ⟨h0, _⟩ | ⟨g, cap, cur, rfl, _⟩
  · exact absurd h0 hv
  · exact ⟨g, cap, rfl, hlt g rfl⟩
theorem ownB_same {W W' : World} {base B : Nat} {e : TypeId} {v : Value} {l : List UInt8} (h : OwnsB W base e v l) (hb : ∀ g, v.ownBlock = some g → W'.heap[g]? = W.heap[g]?) (hB : B ≤ base) : OwnsB W' B e v l := by
  obtain ⟨h1, h2⟩ := h
  refine ⟨h1, ?_⟩
  rcases h2 with ⟨rfl, h2⟩ | ⟨g, cap, cur, rfl, e2, e3, e4⟩
  · exact .inl ⟨rfl, h2⟩
  · exact .inr ⟨g, cap, cur, rfl, by omega, (hb g rfl).trans e3, e4⟩
theorem ownB_below {W W' : World} {base : Nat} {e : TypeId} {v : Value} {l : List UInt8} (h : OwnsB W base e v l) (hb : Below W.heap.size W W') : OwnsB W' base e v l := ownB_same h (fun g hg => hb.block g (World.ownsRow.lt h g hg).2) (Nat.le_refl _)
/-- 'string(b)' of such a slice. -/
theorem ownB_text {W : World} {base : Nat} {v : Value} {l : List UInt8} (h : OwnsB W base 5 v l) (hv : v ≠ .slice none 0 0) : (convert 121 9 v).run Try.prog W = .ok (.string ⟨l.toArray⟩) W := by
  have hc := fun g hg => World.ownsRow.cells h (g := g) hg
  rcases h.2 with ⟨h0, _⟩ | ⟨g, cap, cur, rfl, _⟩
  · exact absurd h0 hv
  · refine run_convert_bytes_back W 121 9 5 _ cap l underB underU8 underTx ?_
    intro j hj
    refine hc g rfl j _ ?_
    simp [Lib.byteCells, hj]
theorem wp_app_text {w : World} {ops : Array Oper} {rest : List Oper} {o : Oper} {a : Act} {Q : Exit → Act → World → Prop} (hgd : o.guard = none) (sl x : Operand)
    (ho : o.op = .call { callee := .builtin .append, args := #[sl, x], argTypes := #[121, 9] }) (base : Nat) (v : Value) (l : List UInt8) (s : ByteArray) (hs : a.eval sl = v) (hx : a.eval x = .string s)
    (hown : OwnsB w base 5 v l) (hv : v ≠ .slice none 0 0) (hn : l.length + s.size ≤ 1000000) (hbase : base ≤ w.heap.size)
    (h : ∀ v' w', OwnsB w' base 5 v' (l ++ s.data.toList) → v' ≠ .slice none 0 0 → Below base w w' → (∀ k, k < w.heap.size → some k ≠ v.ownBlock → w'.heap[k]? = w.heap[k]?) → w.heap.size ≤ w'.heap.size → wpList Try.prog ops Q rest (a.put o.dst v') w') : wpList Try.prog ops Q (o :: rest) a w := by
  obtain ⟨i, hi, hz0, hz1, hz2⟩ := info_parts infoB
  refine Lib.wpList_append_own_string w hgd sl x _ _ ho base 5 i underB underTx hi hz0 hz1 hz2 v l.length (Lib.byteCells l) hs hown s hx (by unfold maxLen; omega) (by omega) hbase ?_
  intro v' w' h1 h2 h3
  refine h v' w' ?_ (fun e => hv (h3.1 e).1) ?_ (fun k hk hne => h2.block k hk hne) h2.size
  · unfold OwnsB
    have e1 : (l ++ s.data.toList).length = l.length + s.size := by rw [List.length_append]; rfl
    have e2 : Lib.byteCells (l ++ s.data.toList) = Lib.byteCells l ++ Lib.strCells s := by simp [Lib.byteCells, Lib.strCells]
    rw [e1, e2]
    exact h1
  · exact (Below.refl base w).grown h2 hbase (fun k hk => (World.ownsRow.lt hown k hk).1)
/-- A piece of a text. -/
theorem slice_text (tx : ByteArray) (a b : Nat) (ha : a ≤ b) (hb : b ≤ tx.size) (i j : Int) (hi : i = a) (hj : j = b) (W : World) : (Instr.slice 9 (.string tx) (some (.int .i64 i)) (some (.int .i64 j)) none).run Try.prog W = .ok (.string (tx.extract a b)) W := by
  subst hi hj
  simp [Instr.slice, Instr.sliceBounds, run_underlying underTx, go_sem, ha, hb]
end Go.Proofs.Ytfpgobkedfhakaa.Disk
