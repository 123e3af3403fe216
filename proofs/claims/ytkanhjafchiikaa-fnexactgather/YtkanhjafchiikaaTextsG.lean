/- Laws that the proof rests on, put together: When rising shards are those of a text: lists alone. What gathering tells, as a function of rising shards. What the model's gathering tells of a row. Putting shards into a row, one by one: lists alone. Lists of shards of the call's own, and appends of lists to them. What the program and the model tell of rising shards is one. -/
import Derived.Test.YtkanhjafchiikaaImplShards2
import Derived.Test.YtkanhjafchiikaaTextsD
import Derived.Test.YtkanhjafchiikaaTextsE
/- When rising shards are those of a text: lists alone. -/
namespace Go.Proofs.Ytkanhjafchiikaa.Srt
open Go.RowKit Go.Proofs.Ytkanhjafchiikaa.Mem Go.Proofs.Ytkanhjafchiikaa.Harn Go.Proofs.Ytkanhjafchiikaa.Gf

theorem rightB_iff {n m s : Nat} {l : List E} : rightB n m s l = true ↔ ∀ i, i < l.length → rightAt n m s l i = true := by
  unfold rightB; rw [List.all_eq_true]; constructor
  · intro h i hi; exact h i (by simpa using hi)
  · intro h i hi; exact h i (by simpa using hi)
/-- of rising shards that are right, no one's place is at or below an earlier one's -/
theorem rightB_rise {n m s : Nat} {l : List E} (hs : Sorted l 0 l.length) (h : rightB n m s l = true) : ∀ y, y < l.length → ∀ x, x < y → kat l x < kat l y := by
  rw [rightB_iff] at h
  intro y
  induction y with
  | zero => intro _ x hx; omega
  | succ y ih =>
    intro hy x hx
    have h1 := h (y + 1) hy
    unfold rightAt at h1
    simp only [Nat.add_sub_cancel, Bool.and_eq_true, Bool.or_eq_true, decide_eq_true_eq] at h1
    have h2 : kat l (y + 1) ≠ kat l y := by
      rcases h1.2 with h3 | h3
      · omega
      · exact h3
    have h4 := hs y (y + 1) (by omega) (by omega) (by omega)
    have h5 : kat l y < kat l (y + 1) := by omega
    rcases Nat.lt_or_ge x y with h6 | h6
    · exact Int.lt_trans (ih (by omega) x h6) h5
    · obtain rfl : x = y := by omega
      exact h5
theorem rightB_ok {n m s : Nat} {l : List E} (h : rightB n m s l = true) : ∀ x ∈ l, okS n m s x = true := by
  rw [rightB_iff] at h
  intro x hx
  obtain ⟨i, hi, rfl⟩ := List.getElem_of_mem hx
  have h1 := h i hi
  unfold rightAt at h1
  simp only [Bool.and_eq_true, List.getElem?_eq_getElem hi, Option.getD_some] at h1
  exact h1.1
/-- and the other way -/
theorem rightB_of {n m s : Nat} {l : List E} (h : ∀ x ∈ l, okS n m s x = true) (hr : ∀ y, y < l.length → ∀ x, x < y → kat l x < kat l y) : rightB n m s l = true := by
  rw [rightB_iff]
  intro i hi
  unfold rightAt
  simp only [Bool.and_eq_true, Bool.or_eq_true, decide_eq_true_eq, List.getElem?_eq_getElem hi, Option.getD_some]
  refine ⟨h _ (List.getElem_mem hi), ?_⟩
  by_cases h0 : i = 0
  · exact .inl h0
  · right
    have := hr i hi (i - 1) (by omega)
    omega
theorem rise_pair {l : List E} : (∀ y, y < l.length → ∀ x, x < y → kat l x < kat l y) ↔ l.Pairwise (fun a b => a.1 < b.1) := by
  rw [List.pairwise_iff_getElem]
  constructor
  · intro h i j hi hj hij
    have := h j hj i hij
    rwa [kat_at hi, kat_at hj] at this
  · intro h y hy x hx
    have := h x y (by omega) hy hx
    rwa [kat_at (by omega), kat_at hy]
/-- a list in strict order is the only one of its elements -/
theorem rise_one : ∀ {l l' : List E}, l.Perm l' → l.Pairwise (fun a b => a.1 < b.1) → l'.Pairwise (fun a b => a.1 < b.1) → l = l'
  | [], l', hp, _, _ => (List.nil_perm.1 hp).symm
  | a :: l, [], hp, _, _ => absurd hp.length_eq (by simp)
  | a :: l, b :: l', hp, h1, h2 => by
    rw [List.pairwise_cons] at h1 h2
    have hab : a = b := by
      have ha : a ∈ b :: l' := hp.subset (by simp)
      have hb : b ∈ a :: l := hp.symm.subset (by simp)
      rcases List.mem_cons.1 ha with h | h
      · exact h
      · rcases List.mem_cons.1 hb with h' | h'
        · exact h'.symm
        · have q1 := h2.1 a h
          have q2 := h1.1 b h'
          omega
    subst hab
    rw [rise_one (List.Perm.cons_inv hp) h1.2 h2.2]
/-- rising shards are right just where all are right and no two have one place -/
theorem rightB_perm {n m s : Nat} {l l' : List E} (hp : l'.Perm l) (hs : Sorted l' 0 l'.length) : rightB n m s l' = true ↔ (∀ x ∈ l, okS n m s x = true) ∧ (l.map Prod.fst).Nodup := by
  constructor
  · intro h
    refine ⟨fun x hx => rightB_ok h x (hp.symm.subset hx), ?_⟩
    have h1 := rise_pair.1 (rightB_rise hs h)
    refine (hp.map Prod.fst).nodup_iff.1 ?_
    rw [List.Nodup, List.pairwise_map]
    exact h1.imp (fun h => by omega)
  · rintro ⟨h1, h2⟩
    refine rightB_of (fun x hx => h1 x (hp.subset hx)) ?_
    intro y hy x hx
    have h3 := hs x y (by omega) (by omega) hy
    have h4 : (l'.map Prod.fst).Nodup := (hp.map Prod.fst).nodup_iff.2 h2
    rw [List.Nodup, List.pairwise_map, List.pairwise_iff_getElem] at h4
    have h5 := h4 x y (by omega) hy hx
    rw [kat_at (by omega), kat_at hy] at h3 ⊢
    omega
end Go.Proofs.Ytkanhjafchiikaa.Srt

/- What gathering tells, as a function of rising shards. -/
namespace Go.Proofs.Ytkanhjafchiikaa.Srt
open Go.RowKit Go.Proofs.Ytkanhjafchiikaa.Mem Go.Proofs.Ytkanhjafchiikaa.Gf

/-- the places and the bytes of shards -/
def xsOf (l : List E) : List Nat := l.map fun e => e.1.toNat
def psOf (l : List E) : List (List Nat) := l.map fun e => nb e.2
/-- the first k pieces that as many shards as are needed tell, one behind the other -/
def wholeL (l : List E) (L k : Nat) : List Nat := (List.range k).flatMap fun t => mixed (weight (xsOf l) t) (psOf l) L
theorem wholeL_len (l : List E) (L k : Nat) : (wholeL l L k).length = k * L := by
  induction k with
  | zero => simp [wholeL]
  | succ k ih =>
    unfold wholeL at *
    rw [List.range_succ, List.flatMap_append, List.length_append, ih, Nat.add_mul]
    simp [mixed_len]
theorem wholeL_succ (l : List E) (L k : Nat) : wholeL l L (k + 1) = wholeL l L k ++ mixed (weight (xsOf l) k) (psOf l) L := by
  unfold wholeL
  rw [List.range_succ, List.flatMap_append]; simp
theorem wholeL_els (l : List E) (L k : Nat) : Els (wholeL l L k) := fun x hx => by
  obtain ⟨t, _, ht⟩ := List.mem_flatMap.1 hx
  exact mixed_els _ _ _ (weight_lt _ _) x ht
/-- the text that the first shards tell -/
def gatherT (n s : Nat) (l : List E) : ByteArray := toB ((wholeL (l.take n) (plen n s) n).take s)
/-- is this shard a piece of that text? -/
def pieceB (n m : Nat) (t : ByteArray) (e : E) : Bool := decide (e.2 = toB ((spreadL (nb t) n m).getD e.1.toNat []))
/-- what is told of rising shards -/
def gatherR (need more size : Int) (l : List E) : ByteArray × Int :=
  if (fineB need more size && rightB need.toNat more.toNat size.toNat l) = true then
    if (l.length : Int) < need then (ByteArray.empty, 4)
    else if (l.all (pieceB need.toNat more.toNat (gatherT need.toNat size.toNat l))) = true then (gatherT need.toNat size.toNat l, 0) else (ByteArray.empty, 5)
  else (ByteArray.empty, 1)
def outT (o : ByteArray × Int) : Value := .agg #[.string o.1, .int .i64 0, .int .i64 o.2]
theorem gatherT_size {n s : Nat} (l : List E) (h : 0 < n) : (gatherT n s l).size = s := by
  unfold gatherT
  have := plen_ge (need := n) (size := s) h
  rw [toB_size, List.length_take, wholeL_len, Nat.min_eq_left this]
theorem spread_getD_len (s : List Nat) (n m i : Nat) (h : i < n + m) : ((spreadL s n m).map toB)[i]? = some (toB ((spreadL s n m).getD i [])) := by
  have hl := spreadL_len s n m
  rw [List.getElem?_map, List.getD, List.getElem?_eq_getElem (by omega)]; rfl
theorem okS_iff {n m s : Nat} {x : E} : okS n m s x = true ↔ 0 ≤ x.1 ∧ x.1 < (n : Int) + m ∧ x.2.size = plen n s := by
  simp [okS, and_assoc]
/-- A box for what is told. -/
def Box3 (W : World) (g : Nat) : Prop := HasRow W g [.string ByteArray.empty, .int .i64 0, .int .i64 0] 32
theorem Box3.cells {W : World} {g : Nat} (h : Box3 W g) : W.cell? ⟨g, 0, none⟩ = some (.string ByteArray.empty) ∧ W.cell? ⟨g, 1, none⟩ = some (.int .i64 0) ∧ W.cell? ⟨g, 2, none⟩ = some (.int .i64 0) ∧ ∀ o, W.frozen? ⟨g, o, none⟩ = false :=
  ⟨Mem.cell_of_row h 0, Mem.cell_of_row h 1, Mem.cell_of_row h 2, Mem.frozen_of_row h⟩
theorem box3_new (w : World) : Box3 (w.alloc (.cells #[.string ByteArray.empty, .int .i64 0, .int .i64 0] 32)) w.heap.size := Sha.row_new w [.string ByteArray.empty, .int .i64 0, .int .i64 0] 32
theorem Box3.below {W W' : World} {g B : Nat} (h : Box3 W g) (hb : Below B W W') (hg : g < B) : Box3 W' g := Sha.row_below h hb hg
end Go.Proofs.Ytkanhjafchiikaa.Srt

/- What the model's gathering tells of a row. -/
namespace Go.Proofs.Ytkanhjafchiikaa.Srt
open Go.RowKit Go.Proofs.Ytkanhjafchiikaa.Gf

/-- the first k first pieces, as texts -/
def firstT (r : List E) (L k : Nat) : List ByteArray := (List.range k).map fun t => toB (mixed (weight (xsOf r) t) (psOf r) L)
theorem firstT_succ (r : List E) (L k : Nat) : firstT r L (k + 1) = firstT r L k ++ [toB (mixed (weight (xsOf r) k) (psOf r) L)] := by simp [firstT, List.range_succ]
theorem firstT_len (r : List E) (L k : Nat) : (firstT r L k).length = k := by simp [firstT]
theorem firstT_size (r : List E) (L k : Nat) : ∀ t ∈ firstT r L k, t.size = L := fun t ht => by
  obtain ⟨i, _, rfl⟩ := List.mem_map.1 ht
  rw [toB_size, mixed_len]
def wholeT (r : List E) (L k : Nat) : ByteArray := toB (wholeL r L k)
theorem wholeT_size (r : List E) (L k : Nat) : (wholeT r L k).size = k * L := by unfold wholeT; rw [toB_size, wholeL_len]
theorem wholeT_succ (r : List E) (L k : Nat) : wholeT r L (k + 1) = wholeT r L k ++ toB (mixed (weight (xsOf r) k) (psOf r) L) := by
  unfold wholeT; rw [wholeL_succ]
  apply ByteArray.ext
  simp [toB]
/-- the bytes of a text from place i on are 0 -/
def zeroes (t : ByteArray) (i : Nat) : Bool := (t.data.toList.drop i).all (fun b => b == 0)
/-- is this shard a piece of the texts? -/
def sameB (all : List ByteArray) (e : E) : Bool := decide (all[e.1.toNat]? = some e.2)
def gatherS (n m s : Nat) (r : List E) : ByteArray × Int :=
  if (r.all (sameB (restS (firstT (r.take n) (plen n s) n) n (plen n s) m)) && zeroes (wholeT (r.take n) (plen n s) n) s) = true then ((wholeT (r.take n) (plen n s) n).extract 0 s, 0) else (ByteArray.empty, 5)
theorem zeroes_no {t : ByteArray} {s i : Nat} (hs : s ≤ i) (hi : i < t.size) (h : t[i] ≠ 0) : zeroes t s = false := by
  unfold zeroes
  rw [List.all_eq_false]
  refine ⟨t[i], ?_, by simpa using h⟩
  have h1 : i - s < (t.data.toList.drop s).length := by simp; omega
  have h2 : (t.data.toList.drop s)[i - s] = t[i] := by
    rw [List.getElem_drop]
    have : s + (i - s) = i := by omega
    simp only [this]; rfl
  rw [← h2]; exact List.getElem_mem h1
theorem zeroes_yes {t : ByteArray} {s : Nat} (h : ∀ i (hi : i < t.size), s ≤ i → t[i] = 0) : zeroes t s = true := by
  unfold zeroes
  rw [List.all_eq_true]
  intro b hb
  obtain ⟨j, hj, rfl⟩ := List.getElem_of_mem hb
  have hj2 : s + j < t.size := by
    have h0 : t.data.size = t.size := rfl
    simp at hj; omega
  have h1 := h (s + j) hj2 (by omega)
  have h2 : (t.data.toList.drop s)[j] = t[s + j] := by rw [List.getElem_drop]; rfl
  rw [h2, h1]; rfl
end Go.Proofs.Ytkanhjafchiikaa.Srt

/- Putting shards into a row, one by one: lists alone. -/
namespace Go.Proofs.Ytkanhjafchiikaa.Srt
open Go.RowKit Go.Proofs.Ytkanhjafchiikaa.Gf

/-- the first i shards stand in this row -/
structure RowOf (n m s : Nat) (l : List E) (i : Nat) (r : List E) : Prop where
  perm : r.Perm (l.take i)
  rise : r.Pairwise (fun a b => a.1 < b.1)
  ok : ∀ e ∈ l.take i, okS n m s e = true
theorem RowOf.len {n m s : Nat} {l : List E} {i : Nat} {r : List E} (h : RowOf n m s l i r) (hi : i ≤ l.length) : r.length = i := by rw [h.perm.length_eq]; simp; omega
theorem rowOf_zero (n m s : Nat) (l : List E) : RowOf n m s l 0 [] := ⟨by simp, List.Pairwise.nil, by simp⟩
/-- is this row what it should be? -/
def Good (n m s : Nat) (l : List E) : Prop := (∀ x ∈ l, okS n m s x = true) ∧ (l.map Prod.fst).Nodup
theorem bad_ok {n m s : Nat} {l : List E} {i : Nat} (hi : i < l.length) (h : okS n m s l[i] = false) : ¬ Good n m s l := fun hg => by
  have := hg.1 _ (List.getElem_mem hi)
  rw [h] at this; cases this
theorem bad_same {n m s : Nat} {l : List E} {i : Nat} {r : List E} (hr : RowOf n m s l i r) (hi : i < l.length) {k : Nat} (hk : k < r.length) (h : r[k].1 = l[i].1) : ¬ Good n m s l := fun hg => by
  have h1 : r[k] ∈ l.take i := hr.perm.subset (List.getElem_mem hk)
  obtain ⟨j, hj, he⟩ := List.getElem_of_mem h1
  have hj2 : j < i := by simp at hj; omega
  have h2 := hg.2
  rw [List.Nodup, List.pairwise_map, List.pairwise_iff_getElem] at h2
  have h3 := h2 j i (by omega) hi hj2
  have h4 : (l.take i)[j] = l[j] := by simp
  rw [h4] at he
  rw [he] at h3
  exact h3 h
theorem RowOf.next {n m s : Nat} {l : List E} {i : Nat} {r : List E} (hr : RowOf n m s l i r) (hi : i < l.length) (hx : okS n m s l[i] = true) {k : Nat} (hk : k ≤ r.length) (h1 : ∀ j (_ : j < k) (h : j < r.length), r[j].1 < l[i].1) (h2 : ∀ h : k < r.length, l[i].1 < r[k].1) : RowOf n m s l (i + 1) (r.take k ++ [l[i]] ++ r.drop k) := by
  have hto : ∀ a ∈ r.take k, a.1 < l[i].1 := fun a ha => by
    obtain ⟨j, hj, he⟩ := List.getElem_of_mem ha
    have hjk : j < k := by simp at hj; omega
    have h3 : (r.take k)[j] = r[j]'(by simp at hj; omega) := by simp
    rw [← he, h3]; exact h1 j hjk _
  have hfrom : ∀ b ∈ r.drop k, l[i].1 < b.1 := fun b hb => by
    obtain ⟨j, hj, he⟩ := List.getElem_of_mem hb
    have hkr : k < r.length := by simp at hj; omega
    have h3 : (r.drop k)[j] = r[k + j]'(by simp at hj; omega) := by simp
    rw [← he, h3]
    have h4 := h2 hkr
    rcases Nat.eq_zero_or_pos j with h0 | h0
    · subst h0; simpa using h4
    · have h5 := (List.pairwise_iff_getElem.1 hr.rise) k (k + j) hkr (by simp at hj; omega) (by omega)
      omega
  refine ⟨?_, ?_, ?_⟩
  · rw [List.take_succ_eq_append_getElem hi]
    have h3 : (r.take k ++ [l[i]] ++ r.drop k).Perm (r.take k ++ r.drop k ++ [l[i]]) := by
      rw [List.append_assoc, List.append_assoc]
      exact List.Perm.append_left _ List.perm_append_comm
    rw [List.take_append_drop] at h3
    exact h3.trans (hr.perm.append_right _)
  · have hs := hr.rise
    rw [← List.take_append_drop k r, List.pairwise_append] at hs
    rw [List.append_assoc, List.pairwise_append]
    refine ⟨hs.1, ?_, fun a ha b hb => ?_⟩
    · rw [List.singleton_append, List.pairwise_cons]
      exact ⟨hfrom, hs.2.1⟩
    · rcases List.mem_cons.1 hb with h | h
      · subst h; exact hto a ha
      · exact hs.2.2 a ha b h
  · intro e he
    rw [List.take_succ_eq_append_getElem hi] at he
    rcases List.mem_append.1 he with h | h
    · exact hr.ok e h
    · simp only [List.mem_singleton] at h
      subst h; exact hx
theorem RowOf.all {n m s : Nat} {l : List E} {r : List E} (h : RowOf n m s l l.length r) : r.Perm l ∧ r.Pairwise (fun a b => a.1 < b.1) ∧ Good n m s l := by
  have hp := h.perm
  have ho := h.ok
  rw [List.take_length] at hp ho
  refine ⟨hp, h.rise, ho, ?_⟩
  refine (hp.map Prod.fst).nodup_iff.1 ?_
  rw [List.Nodup, List.pairwise_map]
  exact h.rise.imp (fun h => by omega)
end Go.Proofs.Ytkanhjafchiikaa.Srt

/- Lists of shards of the call's own, and appends of lists to them. -/
namespace Go.Proofs.Ytkanhjafchiikaa.Srt
open Go.RowKit Go.Proofs.Ytkanhjafchiikaa.Mem Go.Proofs.Ytkanhjafchiikaa.Harn Go.Proofs.Ytkanhjafchiikaa.Gf

/-- A list of shards that owns its row; never nil. -/
def OwnSh (W : World) (base : Nat) (g c : Nat) (l : List E) : Prop := W.ownsRow base 36 2 (.slice (some ⟨g, 0, none⟩) l.length c) l.length (pcells l)
theorem OwnSh.at {W : World} {base g c : Nat} {l : List E} (h : OwnSh W base g c l) : PendsAt W g 0 l := fun j hj => by
  obtain ⟨q1, q2⟩ := pcells_at l j hj
  have h0 : W.ownsRow base 36 2 (.slice (some ⟨g, 0, none⟩) l.length c) l.length (pcells l) := h
  rw [Nat.zero_add]
  exact ⟨(h0.cellAt (j * 2) (by omega)).trans q1, (h0.cellAt (j * 2 + 1) (by omega)).trans q2, h0.frozenAt _, h0.frozenAt _⟩
theorem OwnSh.lt {W : World} {base g c : Nat} {l : List E} (h : OwnSh W base g c l) : base ≤ g ∧ g < W.heap.size := World.ownsRow.lt h g rfl
theorem OwnSh.cap {W : World} {base g c : Nat} {l : List E} (h : OwnSh W base g c l) : l.length ≤ c := by
  rcases h.2 with ⟨h0', _⟩ | ⟨g', cap', cur, hv, _, _, hle, _⟩
  · cases h0'
  · injection hv with _ _ hv3; omega
theorem OwnSh.below {W W' : World} {base g c : Nat} {l : List E} (h : OwnSh W base g c l) (hb : Below W.heap.size W W') : OwnSh W' base g c l := by
  obtain ⟨h1, h2⟩ := h
  refine ⟨h1, ?_⟩
  rcases h2 with ⟨h0, h2⟩ | ⟨g', cap, cur, e1, e2, e3, e4⟩
  · cases h0
  · refine .inr ⟨g', cap, cur, e1, e2, ?_, e4⟩
    have hlt : g' < W.heap.size := by
      rcases Nat.lt_or_ge g' W.heap.size with h | h
      · exact h
      · rw [Array.getElem?_eq_none h] at e3; cases e3
    exact (hb.block g' hlt).trans e3
theorem ownSh_empty (w : World) (base : Nat) (h : base ≤ w.heap.size) : OwnSh (w.alloc (.cells #[] 36)) base w.heap.size 0 [] :=
  w.ownsRow_made #[] 0 h (by unfold maxLen; omega) (by simp)
theorem pcells_app (l l' : List E) : pcells (l ++ l') = pcells l ++ pcells l' := by
  induction l with
  | nil => rfl
  | cons a l ih => simp [pcells, ih]
theorem pcells_one : ∀ (l : List E), ∀ u ∈ pcells l, u.oneCell' = true
  | [], _, h => by simp [pcells] at h
  | y :: l, u, h => by
    simp only [pcells, List.mem_cons] at h
    rcases h with rfl | rfl | h
    · rfl
    · rfl
    · exact pcells_one l u h
/-- what lies in a block from place o on -/
def ShAt (W : World) (b o : Nat) (l : List E) : Prop := ∀ j (h : j < l.length), W.cell? ⟨b, o + j * 2, none⟩ = some (.int .i64 l[j].1) ∧ W.cell? ⟨b, o + j * 2 + 1, none⟩ = some (.string l[j].2)
theorem ShAt.below {W W' : World} {b o : Nat} {l : List E} (h : ShAt W b o l) (hb : Below W.heap.size W W') : ShAt W' b o l := fun j hj => ⟨Sha.bel_cell hb (h j hj).1, Sha.bel_cell hb (h j hj).2⟩
theorem PendsAt.sh {W : World} {g : Nat} {l : List E} (h : PendsAt W g 0 l) : ShAt W g 0 l := fun j hj => ⟨(h j hj).1, (h j hj).2.1⟩
theorem ShAt.take {W : World} {g : Nat} {l : List E} (h : ShAt W g 0 l) (k : Nat) : ShAt W g 0 (l.take k) := fun j hj => by
  have hj2 : j < l.length := by simp at hj; omega
  have e : (l.take k)[j] = l[j] := by simp
  rw [e]; exact h j hj2
theorem ShAt.drop {W : World} {g : Nat} {l : List E} (h : ShAt W g 0 l) (k : Nat) : ShAt W g (k * 2) (l.drop k) := fun j hj => by
  have hj2 : k + j < l.length := by simp at hj; omega
  have e : (l.drop k)[j] = l[k + j] := by simp
  rw [e]
  have := h (k + j) hj2
  rw [show 0 + (k + j) * 2 = k * 2 + j * 2 by omega] at this
  exact this
theorem news_sh {W : World} {b o : Nat} {l : List E} (h : ShAt W b o l) : ∀ j u, (pcells l)[j]? = some u → W.cell? ((⟨b, o, none⟩ : Addr).add j) = some u := fun j u hu => by
  have hl := length_pcells l
  have hj : j < (pcells l).length := by
    rcases Nat.lt_or_ge j (pcells l).length with h | h
    · exact h
    · rw [List.getElem?_eq_none h] at hu; cases hu
  obtain ⟨q1, q2⟩ := pcells_at l (j / 2) (by omega)
  obtain ⟨c1, c2⟩ := h (j / 2) (by omega)
  have hadd : (⟨b, o, none⟩ : Addr).add j = ⟨b, o + j, none⟩ := by unfold Addr.add; split <;> simp_all
  rw [hadd]
  by_cases hp : j % 2 = 0
  · rw [show j / 2 * 2 = j by omega] at q1 c1
    rw [c1, ← q1, hu]
  · rw [show j / 2 * 2 + 1 = j by omega] at q2
    rw [show o + j / 2 * 2 + 1 = o + j by omega] at c2
    rw [c2, ← q2, hu]
theorem app_none' {P : Program} (t ty e : TypeId) (z : Value) (size bytes : Nat) (ht : P.underlying t = some (.slice e)) (hi : (P.info? e).map (fun i => (i.zero, i.size, i.bytes)) = some (some z, size, bytes)) (b0 : Addr) (n cap : Nat) (hn : n ≤ cap) (a : Option Addr) (c : Nat) (w : World) :
    (Builtin.append_ #[t, t] ty #[.slice (some b0) n cap, .slice a 0 c]).run P w = .ok (.slice (some b0) n cap) w := by
  obtain ⟨i, hi0, hz0, hz1, hz2⟩ := info_parts hi
  cases a <;> simp [Builtin.append_, run_underlying ht, sizeOf, typeInfo, hi0, Builtin.lenOf, Builtin.firstCells, storeCells, loadCells, loadCellsFrom, hn]
/-- 'append(v, u...)' -/
theorem wp_sh {w : World} {ops : Array Oper} {rest : List Oper} {op : Oper} {a : Act} {Q : Exit → Act → World → Prop} (hgd : op.guard = none) (s x : Operand)
    (ho : op.op = .call { callee := .builtin .append, args := #[s, x], argTypes := #[27, 27] }) (base g c : Nat) (lp lq : List E) (ad : Option Addr) (b o m c2 : Nat) (n q : Nat) (hln : lp.length = n) (hqn : n + m = q) (hs : a.eval s = .slice (some ⟨g, 0, none⟩) n c) (hx : a.eval x = .slice ad m c2) (hlq : lq.length = m) (had : m ≠ 0 → ad = some ⟨b, o, none⟩)
    (h : OwnSh w base g c lp) (hbase : base ≤ w.heap.size) (hq : ShAt w b o lq) (hn : lp.length + lq.length ≤ 1100000)
    (hK : ∀ g' c' w', OwnSh w' base g' c' (lp ++ lq) → Below base w w' → w.heap.size ≤ w'.heap.size → wpList Try.prog ops Q rest (a.put op.dst (.slice (some ⟨g', 0, none⟩) q c')) w') : wpList Try.prog ops Q (op :: rest) a w := by
  subst hln hlq hqn
  by_cases h0 : lq.length = 0
  · have e : lq = [] := List.length_eq_zero_iff.1 h0
    subst e
    have hr := app_none' (P := Try.prog) 27 op.type 36 _ _ _ underShards infoShard ⟨g, 0, none⟩ lp.length c h.cap ad c2 w
    refine wp_app1 hgd s x _ ho _ _ _ w hs hx hr ?_
    have := hK g c w (by rw [List.append_nil]; exact h) (Below.refl _ _) (Nat.le_refl _)
    simpa using this
  · obtain rfl := had h0
    obtain ⟨i, hi0, hz0, hz1, hz2⟩ := info_parts infoShard
    obtain ⟨g', cap, w', hr, hown, hgr, hat, hlt⟩ := run_append_lies (P := Try.prog) w 27 op.type base 36 i (.agg #[.int .i64 0, .string ByteArray.empty]) 2 24 underShards hi0 hz0 hz1 hz2 rfl (by omega) _ lp.length (pcells lp) h ⟨b, o, none⟩ lq.length c2 (pcells lq) (length_pcells lq) (news_sh hq) (pcells_one lq) (by omega) (by unfold maxLen; omega) (by omega) hbase w.heap.size rfl
    have hb := (Below.refl base w).grown hgr hbase (fun j hj => (World.ownsRow.lt h j hj).1)
    refine wp_app1 hgd s x _ ho _ _ _ w' hs hx hr (hK g' cap w' ?_ hb hb.size)
    unfold OwnSh
    rw [pcells_app, List.length_append]; exact hown
theorem sh_new (W : World) (x : Int) (t : ByteArray) (g : Nat) (hg : g = W.heap.size) : ShAt (W.alloc (.cells #[.int .i64 x, .string t] 36)) g 0 [(x, t)] := fun j hj => by
  subst hg
  obtain rfl : j = 0 := by simp at hj; exact hj
  have h := Sha.row_new W [.int .i64 x, .string t] 36
  exact ⟨Mem.cell_of_row h 0, Mem.cell_of_row h 1⟩
theorem slice_shards' (b o j n c : Nat) (hj : j ≤ n) (hc : n ≤ c) (i : Int) (hi : i = j) (W : World) :
    (Instr.slice 27 (.slice (some ⟨b, o, none⟩) n c) none (some (.int .i64 i)) none).run Try.prog W = .ok (.slice (some ⟨b, o, none⟩) j c) W := by
  subst hi
  have h1 : j ≤ c := by omega
  simp [Instr.slice, Instr.sliceBounds, run_underlying underShards, go_sem, h1]
theorem slice_from (g j n c : Nat) (hj : j ≤ n) (hc : n ≤ c) (i : Int) (hi : i = j) :
    ∃ ad, (n - j ≠ 0 → ad = some ⟨g, j * 2, none⟩) ∧ ∀ W, (Instr.slice 27 (.slice (some ⟨g, 0, none⟩) n c) (some (.int .i64 i)) none none).run Try.prog W = .ok (.slice ad (n - j) (c - j)) W := by
  subst hi
  obtain ⟨i, hi0, hz0, hz1, hz2⟩ := info_parts infoShard
  by_cases h : c = j
  · refine ⟨some ⟨g, 0, none⟩, fun h1 => by omega, fun W => ?_⟩
    have h2 : n = j := by omega
    subst h2
    subst h
    simp [Instr.slice, Instr.sliceBounds, run_underlying underShards, go_sem, sizeOf, typeInfo, hi0, hz1]
  · refine ⟨some ⟨g, j * 2, none⟩, fun _ => rfl, fun W => ?_⟩
    simp [Instr.slice, Instr.sliceBounds, run_underlying underShards, go_sem, sizeOf, typeInfo, hi0, hz1, hj, h]
end Go.Proofs.Ytkanhjafchiikaa.Srt

/- What the program and the model tell of rising shards is one. -/
namespace Go.Proofs.Ytkanhjafchiikaa.Srt
open Go.RowKit Go.Proofs.Ytkanhjafchiikaa.Gf

theorem chunk {f : Nat → List Nat} {L : Nat} (hf : ∀ t, (f t).length = L) : ∀ (n t : Nat), t < n → (((List.range n).flatMap f).drop (t * L)).take L = f t
  | 0, t, h => by omega
  | n + 1, t, h => by
    have hlen : ∀ k, ((List.range k).flatMap f).length = k * L := fun k => by
      induction k with
      | zero => simp
      | succ k ih => rw [List.range_succ, List.flatMap_append, List.length_append, ih, Nat.add_mul]; simp [hf]
    rw [List.range_succ, List.flatMap_append]
    simp only [List.flatMap_cons, List.flatMap_nil, List.append_nil]
    rcases Nat.lt_or_ge t n with h1 | h1
    · have h2 : (t + 1) * L ≤ n * L := Nat.mul_le_mul_right _ h1
      rw [Nat.add_mul, Nat.one_mul] at h2
      rw [List.drop_append_of_le_length (by rw [hlen]; omega), List.take_append_of_le_length (by rw [List.length_drop, hlen]; omega)]
      exact chunk hf n t h1
    · obtain rfl : t = n := by omega
      rw [List.drop_append, hlen, Nat.sub_self, List.drop_eq_nil_of_le (by rw [hlen]; exact Nat.le_refl _), List.nil_append, List.drop_zero, ← hf t, List.take_length]
theorem zeroes_iff {l : List Nat} (h : Els l) (s : Nat) : zeroes (toB l) s = true ↔ l.drop s = List.replicate (l.length - s) 0 := by
  unfold zeroes toB
  rw [List.all_eq_true, List.eq_replicate_iff]
  simp only [List.length_drop, true_and]
  constructor
  · intro h1 b hb
    have h2 : UInt8.ofNat b ∈ (l.map UInt8.ofNat).drop s := by rw [← List.map_drop]; exact List.mem_map.2 ⟨b, hb, rfl⟩
    have h3 := h1 (UInt8.ofNat b) (by simpa using h2)
    have h4 : UInt8.ofNat b = 0 := by simpa using h3
    have h5 := h b (List.mem_of_mem_drop hb)
    have h6 : (UInt8.ofNat b).toNat = 0 := by rw [h4]; rfl
    simp at h6; omega
  · intro h1 b hb
    have hb2 : b ∈ (l.drop s).map UInt8.ofNat := by simpa [List.map_drop] using hb
    obtain ⟨x, hx, rfl⟩ := List.mem_map.1 hb2
    rw [h1 x hx]; rfl
theorem wholeL_eq (r : List E) (L n : Nat) (t : Nat) (h : t < n) : ((wholeL r L n).drop (t * L)).take L = mixed (weight (xsOf r) t) (psOf r) L :=
  chunk (fun _ => mixed_len _ _ _) n t h
/-- where the bytes behind are 0, the first pieces are those of the text -/
theorem firsts_whole (r : List E) {n s L : Nat} (hn : 0 < n) (hL : L = plen n s) (hz : (wholeL r L n).drop s = List.replicate ((wholeL r L n).length - s) 0) : firsts ((wholeL r L n).take s) n = (List.range n).map fun t => mixed (weight (xsOf r) t) (psOf r) L := by
  have hlen := wholeL_len r L n
  have hge : s ≤ n * L := by rw [hL]; exact plen_ge hn
  have hts : ((wholeL r L n).take s).length = s := by rw [List.length_take, hlen]; omega
  have hpad : pad ((wholeL r L n).take s) n = wholeL r L n := by
    unfold pad
    rw [hts, ← hL]
    have h1 := List.take_append_drop s (wholeL r L n)
    rw [hz, hlen] at h1
    exact h1
  unfold firsts
  refine List.map_congr_left fun t ht => ?_
  have ht2 : t < n := by simpa using ht
  unfold cutL
  rw [hpad, hts, ← hL]
  exact wholeL_eq r L n t ht2
theorem mapB_nb {l : List (List Nat)} (h : ∀ p ∈ l, Els p) : (l.map toB).map nb = l := by
  rw [List.map_map]
  have : l.map (nb ∘ toB) = l.map id := List.map_congr_left fun p hp => nb_toB (h p hp)
  rw [this]; simp
theorem gather_same {n m s : Nat} {r : List E} (q1 : 1 ≤ n) (q2 : n ≤ 6) (q3 : m ≤ 4) (hn : n ≤ r.length) (hok : ∀ e ∈ r, okS n m s e = true) (hr : r.Pairwise (fun a b => a.1 < b.1)) :
    (if (r.all (pieceB n m (gatherT n s r))) = true then (gatherT n s r, (0 : Int)) else (ByteArray.empty, 5)) = gatherS n m s r := by
  have hlen := wholeL_len (r.take n) (plen n s) n
  have hge : s ≤ n * plen n s := plen_ge q1
  have hels := wholeL_els (r.take n) (plen n s) n
  have hts : ((wholeL (r.take n) (plen n s) n).take s).length = s := by rw [List.length_take, hlen]; omega
  have hnb : nb (gatherT n s r) = (wholeL (r.take n) (plen n s) n).take s := nb_toB (fun x hx => hels x (List.mem_of_mem_take hx))
  have hext : (wholeT (r.take n) (plen n s) n).extract 0 s = gatherT n s r := by
    unfold wholeT gatherT
    apply ByteArray.ext
    simp only [toB]
    apply Array.ext'
    simp
  unfold gatherS
  rw [hext]
  by_cases hz : zeroes (wholeT (r.take n) (plen n s) n) s = true
  · rw [hz, Bool.and_true]
    have hz2 := (zeroes_iff hels s).1 hz
    have hf := firsts_whole (r.take n) (n := n) (s := s) q1 rfl hz2
    have hall : restS (firstT (r.take n) (plen n s) n) n (plen n s) m = (spreadL (nb (gatherT n s r)) n m).map toB := by
      unfold restS spreadL
      rw [hnb, hts, hf, List.map_append]
      have h1 : firstT (r.take n) (plen n s) n = ((List.range n).map fun t => mixed (weight (xsOf (r.take n)) t) (psOf (r.take n)) (plen n s)).map toB := by
        unfold firstT; rw [List.map_map]; rfl
      rw [h1, mapB_nb (fun p hp => by
        obtain ⟨t, _, rfl⟩ := List.mem_map.1 hp
        exact mixed_els _ _ _ (weight_lt _ _))]
    have hsame : r.all (pieceB n m (gatherT n s r)) = r.all (sameB (restS (firstT (r.take n) (plen n s) n) n (plen n s) m)) := by
      rw [Bool.eq_iff_iff, List.all_eq_true, List.all_eq_true]
      refine forall_congr' fun e => forall_congr' fun he => ?_
      obtain ⟨h1, h2, h3⟩ := okS_iff.1 (hok e he)
      unfold pieceB sameB
      rw [hall, spread_getD_len _ _ _ _ (by omega), decide_eq_true_iff, decide_eq_true_iff, Option.some.injEq]
      exact ⟨fun h => h.symm, fun h => h.symm⟩
    rw [hsame]
  · have hz' : zeroes (wholeT (r.take n) (plen n s) n) s = false := by simpa using hz
    rw [hz', Bool.and_false]
    have hno : ¬ r.all (pieceB n m (gatherT n s r)) = true := by
      intro h
      rw [List.all_eq_true] at h
      apply hz
      refine (zeroes_iff hels s).2 ?_
      have hsz : (nb (gatherT n s r)).length = s := by rw [hnb, hts]
      have hxn : (xsOf (r.take n)).length = n := by simp [xsOf]; omega
      have hpn : (psOf (r.take n)).length = n := by simp [psOf]; omega
      have hmem : ∀ e ∈ r.take n, e ∈ r := fun e he => List.mem_of_mem_take he
      have hnd : (xsOf (r.take n)).Nodup := by
        unfold xsOf
        rw [List.Nodup, List.pairwise_map]
        refine (hr.sublist (List.take_sublist n r)).imp_of_mem fun {a b} ha hb hab => ?_
        have h1 := (okS_iff.1 (hok a (hmem a ha))).1
        omega
      have hxl : ∀ x ∈ xsOf (r.take n), x < n + m := fun x hx => by
        obtain ⟨e, he, rfl⟩ := List.mem_map.1 hx
        have := okS_iff.1 (hok e (hmem e he))
        omega
      have hback : ∀ t, t < n → mixed (weight (xsOf (r.take n)) t) (psOf (r.take n)) (plen n s) = cutL (nb (gatherT n s r)) n t := fun t ht => by
        have hb := mixed_back (s := nb (gatherT n s r)) (nb_els _) (n := n) (m := m) (by omega) hxn hpn hnd hxl (fun i hi => by
          have hi2 : i < r.length := by omega
          have e1 : (psOf (r.take n)).getD i [] = nb r[i].2 := by simp [psOf, List.getD, hi, hi2]
          have e2 : (xsOf (r.take n)).getD i 0 = r[i].1.toNat := by simp [xsOf, List.getD, hi, hi2]
          have hp := h r[i] (List.getElem_mem hi2)
          unfold pieceB at hp
          rw [decide_eq_true_iff] at hp
          have h3 := okS_iff.1 (hok _ (List.getElem_mem hi2))
          rw [e1, e2, hp, nb_toB (spread_els (nb_els _) (by omega))]) ht
        rw [hsz] at hb
        exact hb
      have hw : wholeL (r.take n) (plen n s) n = pad (nb (gatherT n s r)) n := by
        rw [← flat_cut _ n q1]
        unfold wholeL
        rw [List.flatMap_def, List.flatMap_def]
        congr 1
        exact List.map_congr_left fun t ht => hback t (by simpa using ht)
      rw [hw]
      unfold pad
      rw [hsz, List.drop_append, hsz, Nat.sub_self, List.drop_zero, List.drop_eq_nil_of_le (by rw [hsz]; exact Nat.le_refl _), List.nil_append]
      congr 1
      rw [List.length_append, hsz, List.length_replicate]; omega
    rw [if_neg hno]; rfl
/-- it does not matter which of the orders is taken -/
theorem gatherR_one {need more size : Int} {l l1 l2 : List E} (h1 : l1.Perm l) (s1 : Sorted l1 0 l1.length) (h2 : l2.Perm l) (s2 : Sorted l2 0 l2.length) : gatherR need more size l1 = gatherR need more size l2 := by
  unfold gatherR
  by_cases hg : Good need.toNat more.toNat size.toNat l
  · have a1 := (rightB_perm h1 s1).2 hg
    have a2 := (rightB_perm h2 s2).2 hg
    have e : l1 = l2 := rise_one (h1.trans h2.symm) (rise_pair.1 (rightB_rise s1 a1)) (rise_pair.1 (rightB_rise s2 a2))
    rw [e]
  · have a1 : rightB need.toNat more.toNat size.toNat l1 = false := by
      cases h : rightB need.toNat more.toNat size.toNat l1 with
      | false => rfl
      | true => exact absurd ((rightB_perm h1 s1).1 h) hg
    have a2 : rightB need.toNat more.toNat size.toNat l2 = false := by
      cases h : rightB need.toNat more.toNat size.toNat l2 with
      | false => rfl
      | true => exact absurd ((rightB_perm h2 s2).1 h) hg
    rw [a1, a2]; simp
end Go.Proofs.Ytkanhjafchiikaa.Srt
