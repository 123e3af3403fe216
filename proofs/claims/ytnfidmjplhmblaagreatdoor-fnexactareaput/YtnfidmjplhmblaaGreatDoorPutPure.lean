/- The steps by which a text is put, and what AreaPut tells. -/
import Derived.Test.YtnfidmjplhmblaaGreatDoorSeenOk
import Derived.Test.YtnfidmjplhmblaaGreatDoorTextsF
namespace Go.Proofs.YtnfidmjplhmblaaGreatDoor.Disk
open Go.RowKit Go.Proofs.YtnfidmjplhmblaaGreatDoor.Mem Go.Proofs.YtnfidmjplhmblaaGreatDoor.Harn Go.Proofs.YtnfidmjplhmblaaGreatDoor.DiskP

/-- The k-th piece of a text. -/
def pieceN (s : ByteArray) (k : Nat) : ByteArray := s.extract (64 * k) (min s.size (64 * (k + 1)))
def textN (s : ByteArray) : Nat := (s.size + 63) / 64
/-- The first k writes of a text. -/
def preS (s : ByteArray) (st k : Nat) : List Step := (List.range k).map fun j => (false, ((st + j : Nat) : Int), pieceN s j)
def textS (s : ByteArray) (st : Nat) : List Step := preS s st (textN s) ++ [(true, 0, ByteArray.empty)]
def allS (s : ByteArray) (st : Nat) (g sd : Int) : List Step := textS s st ++ [(false, 0, headB g sd s.size), (true, 0, ByteArray.empty)]
theorem preS_succ (s : ByteArray) (st k : Nat) : preS s st (k + 1) = preS s st k ++ [(false, ((st + k : Nat) : Int), pieceN s k)] := by
  unfold preS
  rw [List.range_succ, List.map_append]
  rfl
theorem preS_len (s : ByteArray) (st k : Nat) : (preS s st k).length = k := by unfold preS; simp
theorem textS_len (s : ByteArray) (st : Nat) : (textS s st).length = textN s + 1 := by unfold textS; simp [preS_len]
theorem allS_len (s : ByteArray) (st : Nat) (g sd : Int) : (allS s st g sd).length = textN s + 3 := by unfold allS; simp [textS_len]
theorem piece_size (s : ByteArray) (k : Nat) : (pieceN s k).size ≤ 64 := by unfold pieceN; simp; omega
theorem at_of {l : List Step} {k : Nat} {y : Step} (h : l[k]? = some y) (hk : k < l.length) : l[k] = y := (List.getElem?_eq_some_iff.1 h).2
theorem allS_write (s : ByteArray) (st : Nat) (g sd : Int) (k : Nat) (h : k < textN s) (hk : k < (allS s st g sd).length) : (allS s st g sd)[k] = (false, ((st + k : Nat) : Int), pieceN s k) := by
  refine at_of ?_ hk
  unfold allS
  rw [List.getElem?_append_left (by rw [textS_len]; omega)]
  unfold textS
  rw [List.getElem?_append_left (by rw [preS_len]; exact h)]
  unfold preS
  simp [h]
theorem allS_flush (s : ByteArray) (st : Nat) (g sd : Int) (k : Nat) (h : k = textN s) (hk : k < (allS s st g sd).length) : (allS s st g sd)[k] = (true, 0, ByteArray.empty) := by
  refine at_of ?_ hk
  unfold allS
  rw [List.getElem?_append_left (by rw [textS_len]; omega)]
  unfold textS
  rw [List.getElem?_append_right (by rw [preS_len]; omega), preS_len, h]
  simp
theorem allS_head (s : ByteArray) (st : Nat) (g sd : Int) (k : Nat) (h : k = textN s + 1) (hk : k < (allS s st g sd).length) : (allS s st g sd)[k] = (false, 0, headB g sd s.size) := by
  refine at_of ?_ hk
  unfold allS
  rw [List.getElem?_append_right (by rw [textS_len]; omega), textS_len, h]
  simp
theorem allS_last (s : ByteArray) (st : Nat) (g sd : Int) (k : Nat) (h : k = textN s + 2) (hk : k < (allS s st g sd).length) : (allS s st g sd)[k] = (true, 0, ByteArray.empty) := by
  refine at_of ?_ hk
  unfold allS
  rw [List.getElem?_append_right (by rw [textS_len]; omega), textS_len, h]
  simp
theorem allS_sizes (s : ByteArray) (st : Nat) (g sd : Int) : ∀ y ∈ allS s st g sd, y.2.2.size ≤ 1048576 := by
  have hh := headB_size g sd (s.size : Int)
  intro y hy
  simp only [allS, textS, List.mem_append, List.mem_cons, List.not_mem_nil, or_false] at hy
  rcases hy with (hy | rfl) | rfl | rfl
  · unfold preS at hy
    obtain ⟨j, _, rfl⟩ := List.mem_map.1 hy
    have := piece_size s j
    simp only
    omega
  · simp
  · simp only
    omega
  · simp
/-- The side that the head names. -/
def sideN (ls : List ByteArray) (lp : List (Int × ByteArray)) : Nat := (seenO ls lp).2.1.toNat
/-- What AreaPut tells. -/
def putAO (ls : List ByteArray) (lp : List (Int × ByteArray)) (s : ByteArray) (x : Int) : AOut :=
  if 8000 < s.size then illA 2 else if (readAO ls lp).c = 0 then
    (if 64 * halfN ls < s.size ∨ 1000000 ≤ (readAO ls lp).g then illA 9
     else runO ls lp ((allS s (firstN ls (1 - sideN ls lp)) ((readAO ls lp).g + 1) ((1 - sideN ls lp : Nat) : Int)).take x.toNat))
  else illA (readAO ls lp).c
theorem putAO_fits {ls : List ByteArray} {lp : List (Int × ByteArray)} (s : ByteArray) (x : Int) (h : Fits ls lp) : Fits (putAO ls lp s x).ls (putAO ls lp s x).lp := by
  unfold putAO
  split
  · exact fits_nil
  · split
    · split
      · exact fits_nil
      · exact runO_fits _ ls lp h
    · exact fits_nil
theorem putAO_len {ls : List ByteArray} {lp : List (Int × ByteArray)} {s : ByteArray} {x : Int} (h : Fits ls lp) : (putAO ls lp s x).ls.length ≤ 1100000 ∧ (putAO ls lp s x).lp.length ≤ 1100000 := ⟨(putAO_fits s x h).n, (putAO_fits s x h).m⟩
theorem putAO_size {ls : List ByteArray} {lp : List (Int × ByteArray)} {s : ByteArray} {x : Int} (h : 8000 < s.size) : putAO ls lp s x = illA 2 := by unfold putAO; rw [if_pos h]
theorem putAO_code {ls : List ByteArray} {lp : List (Int × ByteArray)} {s : ByteArray} {x c : Int} (h : ¬ 8000 < s.size) (h2 : readAO ls lp = illA c) (hc : c ≠ 0) : putAO ls lp s x = illA c := by unfold putAO; rw [if_neg h, h2]; exact if_neg hc
theorem putAO_full {ls : List ByteArray} {lp : List (Int × ByteArray)} {s t : ByteArray} {x g : Int} (h : ¬ 8000 < s.size) (h2 : readAO ls lp = ⟨ls, lp, t, g, 0⟩) (hc : 64 * halfN ls < s.size ∨ 1000000 ≤ g) : putAO ls lp s x = illA 9 := by unfold putAO; rw [if_neg h, h2]; simp only; rw [if_pos trivial, if_pos hc]
theorem putAO_ok {ls : List ByteArray} {lp : List (Int × ByteArray)} {s t : ByteArray} {x g : Int} {sd n : Nat} (h : ¬ 8000 < s.size) (h2 : readAO ls lp = ⟨ls, lp, t, g, 0⟩) (hs : seenO ls lp = (g, (sd : Int), (n : Int), 0)) (hc : ¬ (64 * halfN ls < s.size ∨ 1000000 ≤ g)) : putAO ls lp s x = runO ls lp ((allS s (firstN ls (1 - sd)) (g + 1) ((1 - sd : Nat) : Int)).take x.toNat) := by
  unfold putAO sideN
  rw [if_neg h, h2, hs]
  simp only
  rw [if_pos trivial, if_neg hc]
  simp

/-- The steps' cells. -/
def scells : List Step → List Value
  | [] => []
  | y :: r => .bool y.1 :: .int .i64 y.2.1 :: .string y.2.2 :: scells r
theorem scells_app (l m : List Step) : scells (l ++ m) = scells l ++ scells m := by
  induction l with
  | nil => rfl
  | cons y r ih => simp [scells, ih]
theorem scells_len (l : List Step) : (scells l).length = l.length * 3 := by
  induction l with
  | nil => rfl
  | cons y r ih => simp only [scells, List.length_cons, ih]; omega
theorem scells_at (l : List Step) (j : Nat) (hj : j < l.length) : (scells l)[j * 3]? = some (.bool l[j].1) ∧ (scells l)[j * 3 + 1]? = some (.int .i64 l[j].2.1) ∧ (scells l)[j * 3 + 2]? = some (.string l[j].2.2) := by
  induction l generalizing j with
  | nil => simp at hj
  | cons y r ih =>
    cases j with
    | zero => exact ⟨rfl, rfl, rfl⟩
    | succ j =>
      have h := ih j (by simpa using hj)
      rw [show (j + 1) * 3 = j * 3 + 1 + 1 + 1 by omega]
      simpa [scells] using h
/-- A list of steps that owns its row, or is nil. -/
def OwnS (W : World) (base : Nat) (v : Value) (l : List Step) : Prop := W.ownsRow base 93 3 v l.length (scells l)
theorem ownS_nil (W : World) (base : Nat) : OwnS W base (.slice none 0 0) [] := World.ownsRow_nil _ _ _ _
theorem OwnS.same {W W' : World} {base B : Nat} {v : Value} {l : List Step} (h : OwnS W base v l) (hb : ∀ g, v.ownBlock = some g → W'.heap[g]? = W.heap[g]?) (hB : B ≤ base) : OwnS W' B v l := by
  obtain ⟨h1, h2⟩ := h
  refine ⟨h1, ?_⟩
  rcases h2 with ⟨rfl, h2⟩ | ⟨g, cap, cur, rfl, e2, e3, e4⟩
  · exact .inl ⟨rfl, h2⟩
  · exact .inr ⟨g, cap, cur, rfl, by omega, (hb g rfl).trans e3, e4⟩
theorem OwnS.below {W W' : World} {base : Nat} {v : Value} {l : List Step} (h : OwnS W base v l) (hb : Below W.heap.size W W') : OwnS W' base v l := h.same (fun g hg => hb.block g (World.ownsRow.lt h g hg).2) (Nat.le_refl _)
theorem OwnS.steps {W : World} {base : Nat} {v : Value} {l : List Step} (h : OwnS W base v l) : Steps W v l := by
  have h0 := h
  rcases h.2 with ⟨rfl, hn⟩ | ⟨g, cap, cur, rfl, _⟩
  · exact ⟨none, 0, by rw [hn], fun j hj => by omega⟩
  · refine ⟨some ⟨g, 0, none⟩, cap, rfl, fun j hj => ⟨g, 0, rfl, ?_⟩⟩
    obtain ⟨q1, q2, q3⟩ := scells_at l j hj
    simp only [Nat.zero_add]
    exact ⟨(World.ownsRow.cellAt h0 (j * 3) (by omega)).trans q1, (World.ownsRow.cellAt h0 (j * 3 + 1) (by omega)).trans q2, (World.ownsRow.cellAt h0 (j * 3 + 2) (by omega)).trans q3⟩
theorem infoStep : (Tryz.prog.info? 93).map (fun i => (i.zero, i.size, i.bytes)) = some (some (.agg #[.bool false, .int .i64 0, .string ByteArray.empty]), 3, 32) := by kernel_rfl
theorem underSteps : Tryz.prog.underlying 64 = some (.slice 93) := by kernel_rfl
theorem steps_news {W : World} {b o c : Nat} {m : List Step} (h : Steps W (.slice (some ⟨b, o, none⟩) m.length c) m) : ∀ j u, (scells m)[j]? = some u → W.cell? ((⟨b, o, none⟩ : Addr).add j) = some u := fun j u hu => by
  have hl := scells_len m
  have hj : j < (scells m).length := by
    rcases Nat.lt_or_ge j (scells m).length with h | h
    · exact h
    · rw [List.getElem?_eq_none h] at hu; cases hu
  obtain ⟨q1, q2, q3⟩ := scells_at m (j / 3) (by omega)
  obtain ⟨a, cap, hv, hc⟩ := h
  cases hv
  obtain ⟨b', o', e, c1, c2, c3⟩ := hc (j / 3) (by omega)
  cases e
  have hadd : (⟨b, o, none⟩ : Addr).add j = ⟨b, o + j, none⟩ := by unfold Addr.add; split <;> simp_all
  rw [hadd]
  have h3 : j % 3 = 0 ∨ j % 3 = 1 ∨ j % 3 = 2 := by omega
  rcases h3 with h3 | h3 | h3
  · rw [show j / 3 * 3 = j by omega] at q1 c1
    rw [c1, ← q1, hu]
  · rw [show o + j / 3 * 3 + 1 = o + j by omega] at c2
    rw [show j / 3 * 3 + 1 = j by omega] at q2
    rw [c2, ← q2, hu]
  · rw [show o + j / 3 * 3 + 2 = o + j by omega] at c3
    rw [show j / 3 * 3 + 2 = j by omega] at q3
    rw [c3, ← q3, hu]
/-- Steps behind steps that own their row, or are nil. -/
theorem app_steps (ty : TypeId) (base b o c : Nat) (v : Value) (l m : List Step) (W : World) (h : OwnS W base v l) (hbase : base ≤ W.heap.size) (hm : Steps W (.slice (some ⟨b, o, none⟩) m.length c) m) (h0 : 0 < m.length) (hn : l.length + m.length ≤ 1100000) :
    ∃ g' cap W1, (Builtin.append_ #[64, 64] ty #[v, .slice (some ⟨b, o, none⟩) m.length c]).run Tryz.prog W = .ok (.slice (some ⟨g', 0, none⟩) (l.length + m.length) cap) W1 ∧ OwnS W1 base (.slice (some ⟨g', 0, none⟩) (l.length + m.length) cap) (l ++ m) ∧ g' < W1.heap.size ∧ W.grownBy W1 v.ownBlock := by
  obtain ⟨i, hi0, hz0, hz1, hz2⟩ := info_parts infoStep
  obtain ⟨g', cap, W1, hr, hown, hgr, hat, hlt⟩ := run_append_lies (P := Tryz.prog) W 64 ty base 93 i (.agg #[.bool false, .int .i64 0, .string ByteArray.empty]) 3 32 underSteps hi0 hz0 hz1 hz2 rfl (by omega) v l.length (scells l) h ⟨b, o, none⟩ m.length c (scells m) (by rw [scells_len]) (steps_news hm) (by
      intro u hu
      clear hm h0 hn
      induction m with
      | nil => simp [scells] at hu
      | cons y r ih =>
        simp only [scells, List.mem_cons] at hu
        rcases hu with rfl | rfl | rfl | hu
        · rfl
        · rfl
        · rfl
        · exact ih hu) (by omega) (by unfold maxLen; omega) (by omega) hbase W.heap.size rfl
  refine ⟨g', cap, W1, hr, ?_, hlt, hgr⟩
  unfold OwnS
  rw [scells_app, List.length_append]
  exact hown
end Go.Proofs.YtnfidmjplhmblaaGreatDoor.Disk
