/- A slice of bytes of the call's own memory that may bear the mark of a conversion: made out of a text, and appended to byte by byte. -/
import Derived.Test.YthkgncgaemoppaaDoorOwnBytes
import Derived.Deep.AppendLies
namespace Go.Proofs.YthkgncgaemoppaaDoor.Mem
open Go.RowKit

/-- The slice v is of the call's own memory and holds the bytes l; no cell of its row is frozen. -/
def OwnsM (w : World) (base : Nat) (e : TypeId) (v : Value) (l : List UInt8) : Prop :=
  ∃ g cap cur fz, v = .slice (some ⟨g, 0, none⟩) l.length cap ∧ base ≤ g ∧ w.heap[g]? = some (.cells cur e fz) ∧ (fz = (0, 0) ∨ cur.size ≤ fz.1) ∧ l.length ≤ cap ∧ cap ≤ maxLen ∧ cur.size = cap ∧ cur.toList.take l.length = Lib.byteCells l

theorem OwnsM.lt {w : World} {base : Nat} {e : TypeId} {v : Value} {l : List UInt8} (h : OwnsM w base e v l) : ∀ k, v.ownBlock = some k → base ≤ k ∧ k < w.heap.size := by
  obtain ⟨g, cap, cur, fz, rfl, hb, hg, _⟩ := h
  intro k hk
  simp [Value.ownBlock] at hk
  subst hk
  exact ⟨hb, (Array.getElem?_eq_some_iff.1 hg).1⟩

theorem OwnsM.cells {w : World} {base : Nat} {e : TypeId} {v : Value} {l : List UInt8} (h : OwnsM w base e v l) {g : Nat} (hg : v.ownBlock = some g) : ∀ j (hj : j < l.length), w.cell? ⟨g, j, none⟩ = some (.int .u8 (l[j].toNat : Nat)) := by
  obtain ⟨g', cap, cur, fz, rfl, hb, hgg, _, _, _, _, ht⟩ := h
  intro j hj
  simp [Value.ownBlock] at hg
  subst hg
  have h1 : (cur.toList.take l.length)[j]? = (Lib.byteCells l)[j]? := by rw [ht]
  rw [List.getElem?_take, if_pos hj] at h1
  have h2 : w.cell? ⟨g', j, none⟩ = cur[j]? := by simp [World.cell?, hgg]
  rw [h2, ← Array.getElem?_toList, h1]
  simp [Lib.byteCells, hj]

theorem OwnsM.alloc {w : World} {base : Nat} {e : TypeId} {v : Value} {l : List UInt8} (h : OwnsM w base e v l) (o : Obj) : OwnsM (w.alloc o) base e v l := by
  obtain ⟨g, cap, cur, fz, rfl, hb, hg, rest⟩ := h
  exact ⟨g, cap, cur, fz, rfl, hb, by rw [Below.heap_alloc w o g (Array.getElem?_eq_some_iff.1 hg).1]; exact hg, rest⟩

/-- 'append' of one byte. -/
theorem run_append_M {P : Program} (w : World) (base : Nat) (t ty e : TypeId) (i : TypeInfo) (ht : P.underlying t = some (.slice e)) (hi : P.info? e = some i) (hz : i.zero = some (.int .u8 0)) (hsize : i.size = 1) (hby : i.bytes = 1)
    (v : Value) (l : List UInt8) (hown : OwnsM w base e v l) (a : Addr) (c : Nat) (b : UInt8) (hnews : w.cell? (a.add 0) = some (.int .u8 (b.toNat : Nat))) (hn : l.length + 1 ≤ 1000000) (hbase : base ≤ w.heap.size) :
    ∃ v' w', (Builtin.append_ #[t, t] ty #[v, .slice (some a) 1 c]).run P w = .ok v' w' ∧ OwnsM w' base e v' (l ++ [b]) ∧ w.grownBy w' v.ownBlock := by
  have hcs := fun g hg => hown.cells (g := g) hg
  obtain ⟨g, cap, cur, fz, rfl, hbg, hg, hfz, hnc, hcm, hcz, htake⟩ := hown
  have hN : ∀ j u, [Value.int .u8 (b.toNat : Nat)][j]? = some u → w.cell? (a.add j) = some u := by
    intro j u hj
    match j, hj with
    | 0, hj => simp at hj; subst hj; exact hnews
  have hll : (Lib.byteCells l).length = l.length := length_byteCells l
  by_cases hroom : l.length + 1 ≤ cap
  · have hf := run_firstCells_some (P := P) w i.size 1 a 1 c [.int .u8 (b.toNat : Nat)] (by simp [hsize]) hN
    have hcell : w.cell? ⟨g, l.length, none⟩ = some cur[l.length] := by simp [World.cell?, hg, show l.length < cur.size by omega]
    have hfro : w.frozen? ⟨g, l.length, none⟩ = false := by
      obtain ⟨lo, hi'⟩ := fz
      simp only [World.frozen?, hg, Bool.and_eq_false_iff, decide_eq_false_iff_not]
      rcases hfz with h | h
      · simp at h; right; omega
      · simp only at h; left; omega
    have hst : (storeCells ⟨g, l.length, none⟩ [.int .u8 (b.toNat : Nat)] 0).run P w = .ok () (w.setRow g (cur.setIfInBounds l.length (.int .u8 (b.toNat : Nat)))) := by
      have hadd : (⟨g, l.length, none⟩ : Addr).add 0 = ⟨g, l.length, none⟩ := by unfold Addr.add; split <;> simp_all
      simp only [storeCells, Sem.run_bind, hadd, run_store P w _ (.int .u8 (b.toNat : Nat)) _ rfl, hcell]
      simp [hfro, setCell_eq_setRow w g l.length cur e fz _ hg]
    refine ⟨.slice (some ⟨g, 0, none⟩) (l.length + 1) cap, w.setRow g (cur.setIfInBounds l.length (.int .u8 (b.toNat : Nat))), ?_, ⟨g, cap, _, fz, by simp, hbg, setRow_heap w g cur _ e _ hg, ?_, by simpa using hroom, hcm, by simpa using hcz, ?_⟩, ⟨rfl, rfl, rfl, by simp, fun k _ hk => setRow_other w g k _ (fun e => hk (by simp [Value.ownBlock, e]))⟩⟩
    · simp [Builtin.append_, run_underlying ht, sizeOf, typeInfo, hi, hsize, Builtin.lenOf, hroom, Addr.add_lit]
      rw [hsize] at hf
      simp [hf, hst]
    · rcases hfz with h | h
      · exact .inl h
      · exact .inr (by simpa using h)
    · rw [Array.toList_setIfInBounds, List.length_append, List.length_singleton]
      have hlc : l.length < cur.toList.length := by simp; omega
      rw [List.take_succ_eq_append_getElem (by simpa using hlc), List.take_set_of_le (Nat.le_refl _), htake, List.getElem_set_self]
      simp [Lib.byteCells]
  · have holds : ∀ j u, (Lib.byteCells l)[j]? = some u → w.cell? ((⟨g, 0, none⟩ : Addr).add j) = some u := by
      intro j u hj
      have hjl : j < l.length := by rw [← hll]; exact (List.getElem?_eq_some_iff.1 hj).1
      have hadd : (⟨g, 0, none⟩ : Addr).add j = ⟨g, j, none⟩ := by unfold Addr.add; split <;> simp_all
      rw [hadd, hcs g rfl j hjl]
      simp [Lib.byteCells, hjl] at hj
      rw [← hj]
    have hr := run_append_grow (P := P) w t ty e i (.int .u8 0) ht hi hz ⟨g, 0, none⟩ l.length cap (Lib.byteCells l) (by simp [hll, hsize]) holds a 1 c [.int .u8 (b.toNat : Nat)] (by simp [hsize]) hN (by omega) (by omega) (by rw [hby]; exact growslice_fits (by omega) (by omega))
    have hge := grownCap_ge w (l.length + 1) cap e
    have hm : l.length + 1 ≤ maxLen := by unfold maxLen; omega
    have hcm2 : grownCap w (l.length + 1) cap e ≤ maxLen := grownCap_le_maxLen w (l.length + 1) cap e hm
    refine ⟨_, _, hr, ⟨w.heap.size, grownCap w (l.length + 1) cap e, _, (0, 0), by simp, hbase, heap_alloc_new w.drew _, .inl rfl, by simpa using hge, hcm2, ?_, ?_⟩, ⟨rfl, rfl, rfl, by simp, fun k hk _ => Below.heap_alloc w.drew _ k hk⟩⟩
    · have hz1 : (Value.int IntKind.u8 0).cells.size = 1 := rfl
      simp only [Array.size_append, List.size_toArray, size_zeroCells, hz1, hll, List.length_singleton]
      omega
    · have e1 : Lib.byteCells (l ++ [b]) = Lib.byteCells l ++ [.int .u8 (b.toNat : Nat)] := by simp [Lib.byteCells]
      have e2 : (l ++ [b]).length = (Lib.byteCells l ++ [Value.int .u8 (b.toNat : Nat)]).length := by simp [hll]
      rw [e1, e2]
      simp only [Array.toList_append, List.append_assoc]
      rw [← List.append_assoc]
      exact List.take_left

theorem wpList_append_M {P : Program} {w : World} {ops : Array Oper} {rest : List Oper} {o : Oper} {a : Act} {Q : Exit → Act → World → Prop} (hgd : o.guard = none) (s x : Operand) (t : TypeId)
    (ho : o.op = .call { callee := .builtin .append, args := #[s, x], argTypes := #[t, t] })
    (base : Nat) (e : TypeId) (i : TypeInfo) (ht : P.underlying t = some (.slice e)) (hi : P.info? e = some i) (hz : i.zero = some (.int .u8 0)) (hsize : i.size = 1) (hby : i.bytes = 1)
    (v : Value) (l : List UInt8) (hs : a.eval s = v) (hown : OwnsM w base e v l) (ad : Addr) (c : Nat) (b : UInt8) (hx : a.eval x = .slice (some ad) 1 c) (hnews : w.cell? (ad.add 0) = some (.int .u8 (b.toNat : Nat))) (hn : l.length + 1 ≤ 1000000) (hbase : base ≤ w.heap.size)
    (h : ∀ v' w', OwnsM w' base e v' (l ++ [b]) → w.grownBy w' v.ownBlock → wpList P ops Q rest (a.put o.dst v') w') : wpList P ops Q (o :: rest) a w := by
  refine wpList_plain hgd fun K hK => ?_
  obtain ⟨v', w', hr, h2, h3⟩ := run_append_M (P := P) w base t o.type e i ht hi hz hsize hby v l hown ad c b hnews hn hbase
  unfold Oper.wp execOp
  simp only [ho, resolve, invoke, builtin, Sem.run_bind, Sem.run_pure, Result.andThen_ok, List.map_toArray, List.map_cons, List.map_nil, hs, hx, hr]
  exact hK _ _ (h v' w' h2 h3)

/-- '[]byte(s)'. -/
theorem convert_M {P : Program} (src dst e : TypeId) (hs : P.underlying src = some .string) (hd : P.underlying dst = some (.slice e)) (he : P.underlying e = some (.int .u8)) (w : World) (s : ByteArray) (hz : s.size ≤ 1000000) :
    ∃ v W, (convert src dst (.string s)).run P w = .ok v W ∧ OwnsM W w.heap.size e v s.data.toList ∧ Below w.heap.size w W ∧ W.heap.size = w.heap.size + 1 := by
  have hge := grownCap_ge w s.size 0 e
  have hm : s.size ≤ maxLen := by unfold maxLen; omega
  have hl : s.data.toList.length = s.size := rfl
  have hsz : (bytesRow s (grownCap w s.size 0 e)).size = grownCap w s.size 0 e := by
    have : s.data.size = s.size := rfl
    simp [bytesRow, this]; omega
  refine ⟨_, _, run_bytes_of_string w src dst e s hs hd he, ⟨w.heap.size, grownCap w s.size 0 e, bytesRow s (grownCap w s.size 0 e), ((bytesRow s (grownCap w s.size 0 e)).size, (bytesRow s (grownCap w s.size 0 e)).size + 1), by rw [hl], Nat.le_refl _, ?_, .inr (Nat.le_refl _), by rw [hl]; exact hge, grownCap_le_maxLen w s.size 0 e hm, hsz, ?_⟩, (Below.refl w.heap.size w).drew.alloc (Nat.le_refl _) _, by simp⟩
  · show (w.heap.push _)[w.heap.size]? = _
    simp
  · rw [hl]
    have e1 : (bytesRow s (grownCap w s.size 0 e)).toList = Lib.byteCells s.data.toList ++ List.replicate (grownCap w s.size 0 e - s.size) (.int .u8 0) := by
      simp [bytesRow, Lib.byteCells]
    rw [e1, List.take_append_of_le_length (by rw [length_byteCells, hl]; exact Nat.le_refl _), List.take_of_length_le (by rw [length_byteCells, hl]; exact Nat.le_refl _)]
end Go.Proofs.YthkgncgaemoppaaDoor.Mem
