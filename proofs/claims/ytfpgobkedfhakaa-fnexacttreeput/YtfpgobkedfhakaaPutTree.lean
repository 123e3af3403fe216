/- A file put into a tree: lists alone. -/
import Derived.Test.YtfpgobkedfhakaaTreePure
namespace Go.Proofs.Ytfpgobkedfhakaa.Tre

theorem less_irrefl (x : List UInt8) : Op.bytesLess x x = false := by
  have h := less_total x x
  cases hb : Op.bytesLess x x
  · rfl
  · rw [hb] at h; simp at h
theorem less_trans : ∀ x y z : List UInt8, Op.bytesLess x y = true → Op.bytesLess y z = true → Op.bytesLess x z = true
  | _, [], _, h, _ => by cases ‹List UInt8› <;> simp [Op.bytesLess] at h
  | [], _ :: _, [], _, h => by simp [Op.bytesLess] at h
  | [], _ :: _, _ :: _, _, _ => by simp [Op.bytesLess]
  | _ :: _, _ :: _, [], _, h => by simp [Op.bytesLess] at h
  | a :: x, b :: y, c :: z, h1, h2 => by
    simp only [Op.bytesLess, Bool.or_eq_true, decide_eq_true_eq, Bool.and_eq_true, beq_iff_eq] at h1 h2 ⊢
    rcases h1 with h1 | ⟨rfl, h1⟩
    · rcases h2 with h2 | ⟨rfl, _⟩
      · exact .inl (UInt8.lt_trans h1 h2)
      · exact .inl h1
    · rcases h2 with h2 | ⟨rfl, h2⟩
      · exact .inl h2
      · exact .inr ⟨rfl, less_trans x y z h1 h2⟩
theorem ltT_irrefl (x : ByteArray) : ltT x x = false := less_irrefl _
theorem ltT_trans {x y z : ByteArray} (h1 : ltT x y = true) (h2 : ltT y z = true) : ltT x z = true := less_trans _ _ _ h1 h2
/-- the same bytes -/
def sameT (a b : ByteArray) : Bool := a.data.toList == b.data.toList
theorem sameT_lt {a b : ByteArray} (h : ltT a b = true) : sameT a b = false := by
  cases hs : sameT a b
  · rfl
  · have e : a.data.toList = b.data.toList := by simpa [sameT] using hs
    unfold ltT at h
    rw [e, less_irrefl] at h; cases h
theorem sameT_gt {a b : ByteArray} (h : ltT b a = true) : sameT a b = false := by
  cases hs : sameT a b
  · rfl
  · have e : a.data.toList = b.data.toList := by simpa [sameT] using hs
    unfold ltT at h
    rw [e, less_irrefl] at h; cases h
theorem three (a b : ByteArray) : ltT a b = true ∨ sameT a b = true ∨ ltT b a = true := by
  have h := leq_total a b
  cases h1 : ltT b a
  · rw [h1] at h
    simp only [Bool.not_false, Bool.or_eq_true] at h
    rcases h with h | h
    · exact .inl h
    · exact .inr (.inl h)
  · exact .inr (.inr rfl)
/-- sorted by path, all paths different -/
def Sor (l : List Fl) : Prop := l.Pairwise fun a b => ltT a.p b.p = true
theorem sor_adj {l : List Fl} (h : ∀ i (h : i + 1 < l.length), ltT l[i].p l[i + 1].p = true) : Sor l := by
  apply List.pairwise_iff_getElem.2
  intro i j hi hj hij
  obtain ⟨n, rfl⟩ : ∃ n, j = i + 1 + n := ⟨j - i - 1, by omega⟩
  clear hij
  induction n with
  | zero => exact h i hj
  | succ n ih => exact ltT_trans (ih (by omega)) (h (i + 1 + n) (by omega))
theorem sor_tree {l : List Fl} (h : treeR l = true) : Sor l := by
  apply sor_adj
  intro i hi
  have hg := treeR_at h (i + 1) hi
  unfold goodAt at hg
  simp only [Bool.and_eq_true, Bool.or_eq_true, decide_eq_true_eq] at hg
  rcases hg.1.2 with h0 | h0
  · omega
  · exact h0
/-- the first place whose path is not less -/
def placeL : List Fl → ByteArray → Nat
  | [], _ => 0
  | y :: t, p => if ltT y.p p then placeL t p + 1 else 0
theorem placeL_le : ∀ (l : List Fl) (p : ByteArray), placeL l p ≤ l.length
  | [], _ => Nat.le_refl _
  | y :: t, p => by
    unfold placeL
    split
    · have := placeL_le t p; simp; omega
    · omega
theorem placeL_lt : ∀ (l : List Fl) (p : ByteArray) (j : Nat) (h : j < l.length), j < placeL l p → ltT l[j].p p = true
  | y :: t, p, j, h, hj => by
    unfold placeL at hj
    split at hj
    · rename_i hl
      cases j with
      | zero => exact hl
      | succ j => exact placeL_lt t p j (by simpa using h) (by omega)
    · omega
theorem placeL_at : ∀ (l : List Fl) (p : ByteArray) (h : placeL l p < l.length), ltT l[placeL l p].p p = false
  | y :: t, p, h => by
    by_cases hl : ltT y.p p = true
    · have e : placeL (y :: t) p = placeL t p + 1 := by rw [placeL, if_pos hl]
      have h2 : placeL t p < t.length := by rw [e] at h; simpa using h
      have := placeL_at t p h2
      simp only [e, List.getElem_cons_succ]
      exact this
    · have e : placeL (y :: t) p = 0 := by rw [placeL, if_neg hl]
      simp only [e, List.getElem_cons_zero]
      simpa using hl
/-- where all before are less and the one there is not, there the place is -/
theorem placeL_is : ∀ (l : List Fl) (p : ByteArray) (k : Nat), k ≤ l.length → (∀ j (h : j < l.length), j < k → ltT l[j].p p = true) → (∀ h : k < l.length, ltT l[k].p p = false) → k = placeL l p
  | [], p, k, hk, _, _ => by simp at hk; subst hk; rfl
  | y :: t, p, 0, _, _, h2 => by
    have := h2 (by simp)
    simp only [List.getElem_cons_zero] at this
    rw [placeL, if_neg (by rw [this]; decide)]
  | y :: t, p, k + 1, hk, h1, h2 => by
    have h0 := h1 0 (by simp) (by omega)
    simp only [List.getElem_cons_zero] at h0
    rw [placeL, if_pos h0]
    have := placeL_is t p k (by simpa using hk) (fun j h hj => by
      have := h1 (j + 1) (by simpa using h) (by omega)
      simpa using this) (fun h => by
      have := h2 (by simpa using h)
      simpa using this)
    omega
/-- whether the path stands at that place -/
def hereL (l : List Fl) (p : ByteArray) : Bool := match l[placeL l p]? with
  | some y => sameT y.p p
  | none => false
/-- the files of the other paths -/
def otherL (l : List Fl) (p : ByteArray) : List Fl := l.filter fun y => !sameT y.p p
/-- the file put there -/
def putL (l : List Fl) (f : Fl) : List Fl := l.take (placeL l f.p) ++ f :: l.drop (placeL l f.p + if hereL l f.p then 1 else 0)
theorem other_all {p : ByteArray} : ∀ {t : List Fl}, (∀ y ∈ t, ltT p y.p = true) → otherL t p = t := fun {t} h => by
  unfold otherL
  rw [List.filter_eq_self]
  intro y hy
  rw [sameT_gt (h y hy)]; rfl
theorem place_zero {p : ByteArray} {t : List Fl} (h : ∀ y ∈ t, ltT p y.p = true) : placeL t p = 0 := by
  cases t with
  | nil => rfl
  | cons y t =>
    have h1 := h y (by simp)
    rw [placeL, if_neg]
    intro h2
    have := ltT_trans h1 h2
    rw [ltT_irrefl] at this; cases this
theorem here_cons {y : Fl} {t : List Fl} {p : ByteArray} (h : ltT y.p p = true) : hereL (y :: t) p = hereL t p := by
  unfold hereL
  rw [placeL, if_pos h]
  simp
/-- the other files, in two pieces -/
theorem other_cut : ∀ {l : List Fl} (p : ByteArray), Sor l → otherL l p = l.take (placeL l p) ++ l.drop (placeL l p + if hereL l p then 1 else 0)
  | [], p, _ => by simp [otherL]
  | y :: t, p, h => by
    obtain ⟨h1, h2⟩ := List.pairwise_cons.1 h
    rcases three y.p p with hl | hs | hg
    · rw [here_cons hl, placeL, if_pos hl]
      have e : otherL (y :: t) p = y :: otherL t p := by
        unfold otherL
        rw [List.filter_cons_of_pos (by rw [sameT_lt hl]; rfl)]
      rw [e, other_cut p h2, List.take_succ_cons, show placeL t p + 1 + (if hereL t p = true then 1 else 0) = placeL t p + (if hereL t p = true then 1 else 0) + 1 by omega, List.drop_succ_cons, List.cons_append]
    · have e : y.p = p := ByteArray.ext (Array.ext' (by simpa [sameT] using hs))
      subst e
      have hp : placeL (y :: t) y.p = 0 := by rw [placeL, if_neg (by rw [ltT_irrefl]; decide)]
      have hh : hereL (y :: t) y.p = true := by unfold hereL; rw [hp]; simpa using hs
      rw [hh, hp]
      have : otherL (y :: t) y.p = otherL t y.p := by
        unfold otherL
        rw [List.filter_cons_of_neg (by rw [hs]; decide)]
      rw [this, other_all h1]
      simp
    · have hall : ∀ z ∈ y :: t, ltT p z.p = true := fun z hz => by
        rcases List.mem_cons.1 hz with rfl | hz
        · exact hg
        · exact ltT_trans hg (h1 z hz)
      have hp := place_zero hall
      have hh : hereL (y :: t) p = false := by unfold hereL; rw [hp]; simpa using sameT_gt hg
      rw [hh, hp, other_all hall]
      simp
theorem sor_other {l : List Fl} (p : ByteArray) (h : Sor l) : Sor (otherL l p) := List.Pairwise.sublist List.filter_sublist h
/-- among the other files the place is the same -/
theorem place_other {l : List Fl} (p : ByteArray) (h : Sor l) : placeL (otherL l p) p = placeL l p := by
  have hle := placeL_le l p
  symm
  apply placeL_is
  · rw [other_cut p h]; simp; omega
  · intro j hj hjk
    have hj2 : j < l.length := by omega
    have e : (otherL l p)[j] = l[j] := by
      simp only [other_cut p h]
      rw [List.getElem_append_left (by simp; omega), List.getElem_take]
    rw [e]
    exact placeL_lt l p j hj2 hjk
  · intro hk
    have hne : ∀ y ∈ otherL l p, sameT y.p p = false := fun y hy => by
      have := (List.mem_filter.1 hy).2
      simpa using this
    have hm := hne _ (List.getElem_mem hk)
    generalize hy : (otherL l p)[placeL l p] = y at *
    rcases three y.p p with hl | hs | hg
    · exfalso
      have hd : (otherL l p)[placeL l p]? = l[placeL l p + (if hereL l p then 1 else 0)]? := by
        rw [other_cut p h, List.getElem?_append_right (by simp; omega), List.getElem?_drop]
        congr 1
        simp; omega
      rw [List.getElem?_eq_getElem hk, hy] at hd
      have hd2 := hd.symm
      obtain ⟨hlt, hv⟩ := List.getElem?_eq_some_iff.1 hd2
      have hk2 : placeL l p < l.length := by omega
      have hat := placeL_at l p hk2
      by_cases hh : hereL l p = true
      · simp only [hh, if_true] at hv hlt
        have hpw := List.pairwise_iff_getElem.1 h (placeL l p) (placeL l p + 1) hk2 hlt (by omega)
        rw [hv] at hpw
        have := ltT_trans hpw hl
        rw [hat] at this; cases this
      · simp only [hh] at hv hlt
        simp at hv
        rw [hv, hl] at hat; cases hat
    · rw [hs] at hm; cases hm
    · cases h3 : ltT y.p p
      · rfl
      · have := ltT_trans h3 hg
        rw [ltT_irrefl] at this; cases this
/-- put into the other files: the same list -/
theorem put_other {l : List Fl} (f : Fl) (h : Sor l) : (otherL l f.p).take (placeL (otherL l f.p) f.p) ++ f :: (otherL l f.p).drop (placeL (otherL l f.p) f.p) = putL l f := by
  rw [place_other f.p h]
  have hle := placeL_le l f.p
  have hlen : (l.take (placeL l f.p)).length = placeL l f.p := by simp; omega
  unfold putL
  rw [other_cut f.p h, List.take_left' hlen, List.drop_left' hlen]
end Go.Proofs.Ytfpgobkedfhakaa.Tre
