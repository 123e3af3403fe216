/- Sorting a list of pairs by the first of each: steps, merges and rotations, as plain lists. -/
import Derived.WalkKit
namespace Go.Proofs.Ytjgkekgieodhnaa.Srt

abbrev E := Int × ByteArray
def dE : E := (0, ByteArray.empty)
def kat (l : List E) (i : Nat) : Int := (l[i]?.getD dE).1
theorem kat_of {l l' : List E} {i j : Nat} (h : l'[i]? = l[j]?) : kat l' i = kat l j := by unfold kat; rw [h]
theorem kat_at {l : List E} {i : Nat} (h : i < l.length) : kat l i = l[i].1 := by unfold kat; simp [h]
def swapL (l : List E) (i j : Nat) : List E := (l.set i (l[j]?.getD dE)).set j (l[i]?.getD dE)
theorem swapL_len (l : List E) (i j : Nat) : (swapL l i j).length = l.length := by simp [swapL]
theorem swapL_get {l : List E} {i j : Nat} (hi : i < l.length) (hj : j < l.length) (x : Nat) : (swapL l i j)[x]? = if x = i then l[j]? else if x = j then l[i]? else l[x]? := by
  unfold swapL
  rw [List.getElem?_set, List.getElem?_set]
  have h1 : l[j]?.getD dE = l[j] := by simp [hj]
  have h2 : l[i]?.getD dE = l[i] := by simp [hi]
  rw [h1, h2, List.length_set]
  by_cases e1 : j = x
  · subst e1
    by_cases e2 : j = i
    · subst e2; simp [hj]
    · simp [hj, e2, hi]
  · by_cases e2 : i = x
    · subst e2; simp [e1, hi, hj]
    · have e1' : ¬ x = j := fun h => e1 h.symm
      have e2' : ¬ x = i := fun h => e2 h.symm
      simp [e1, e2, e1', e2']
theorem swapL_perm {l : List E} {i j : Nat} (hi : i < l.length) (hj : j < l.length) : (swapL l i j).Perm l := by
  unfold swapL
  have h1 : l[j]?.getD dE = l[j] := by simp [hj]
  have h2 : l[i]?.getD dE = l[i] := by simp [hi]
  rw [h1, h2]
  exact List.set_set_perm hi hj

/-- from l comes l' by changes from a to b alone -/
structure Step (l l' : List E) (a b : Nat) : Prop where
  perm : l'.Perm l
  out : ∀ x, (x < a ∨ b ≤ x) → l'[x]? = l[x]?
  inn : ∀ x, a ≤ x → x < b → ∃ y, a ≤ y ∧ y < b ∧ l'[x]? = l[y]?
theorem Step.len {l l' : List E} {a b : Nat} (h : Step l l' a b) : l'.length = l.length := h.perm.length_eq
theorem Step.refl (l : List E) (a b : Nat) : Step l l a b := ⟨List.Perm.refl _, fun _ _ => rfl, fun x h1 h2 => ⟨x, h1, h2, rfl⟩⟩
theorem Step.trans {l l1 l2 : List E} {a b : Nat} (h : Step l l1 a b) (k : Step l1 l2 a b) : Step l l2 a b :=
  ⟨k.perm.trans h.perm, fun x hx => (k.out x hx).trans (h.out x hx), fun x h1 h2 => by
    obtain ⟨y, y1, y2, e⟩ := k.inn x h1 h2
    obtain ⟨z, z1, z2, e2⟩ := h.inn y y1 y2
    exact ⟨z, z1, z2, e.trans e2⟩⟩
theorem Step.widen {l l' : List E} {a b a' b' : Nat} (h : Step l l' a b) (ha : a' ≤ a) (hb : b ≤ b') : Step l l' a' b' :=
  ⟨h.perm, fun x hx => h.out x (by omega), fun x h1 h2 => by
    by_cases hin : a ≤ x ∧ x < b
    · obtain ⟨y, y1, y2, e⟩ := h.inn x hin.1 hin.2
      exact ⟨y, by omega, by omega, e⟩
    · exact ⟨x, h1, h2, h.out x (by omega)⟩⟩
theorem swap_step {l : List E} {i j a b : Nat} (hi : a ≤ i) (hi2 : i < b) (hj : a ≤ j) (hj2 : j < b) (hb : b ≤ l.length) : Step l (swapL l i j) a b :=
  ⟨swapL_perm (by omega) (by omega), fun x hx => by rw [swapL_get (by omega) (by omega), if_neg (by omega), if_neg (by omega)], fun x h1 h2 => by
    rw [swapL_get (by omega) (by omega)]
    by_cases e : x = i
    · exact ⟨j, hj, hj2, by rw [if_pos e]⟩
    · by_cases e2 : x = j
      · exact ⟨i, hi, hi2, by rw [if_neg e, if_pos e2]⟩
      · exact ⟨x, h1, h2, by rw [if_neg e, if_neg e2]⟩⟩

def Sorted (l : List E) (a b : Nat) : Prop := ∀ x y, a ≤ x → x ≤ y → y < b → kat l x ≤ kat l y
theorem Sorted.far {l l' : List E} {a b c d : Nat} (h : Sorted l a b) (k : Step l l' c d) (hf : b ≤ c ∨ d ≤ a) : Sorted l' a b := fun x y h1 h2 h3 => by
  rw [kat_of (k.out x (by omega)), kat_of (k.out y (by omega))]
  exact h x y h1 h2 h3
theorem Sorted.one {l : List E} {a b : Nat} (h : b ≤ a + 1) : Sorted l a b := fun x y h1 h2 h3 => by
  obtain rfl : x = y := by omega
  exact Int.le_refl _
/-- two sorted parts, the one nowhere above the other -/
theorem sorted_join {l : List E} {a m b : Nat} (h1 : Sorted l a m) (h2 : Sorted l m b) (h : ∀ x y, a ≤ x → x < m → m ≤ y → y < b → kat l x ≤ kat l y) : Sorted l a b := fun x y hx hxy hy => by
  by_cases e : y < m
  · exact h1 x y hx hxy e
  · by_cases e2 : x < m
    · exact h x y hx e2 (by omega) hy
    · exact h2 x y (by omega) hxy hy

/-- in the midst of an insertion: all up to i but j is in order, and j is not above what is behind it -/
def Ins (l : List E) (a i j : Nat) : Prop := a ≤ j ∧ j ≤ i ∧ (∀ x y, a ≤ x → x < y → y ≤ i → x ≠ j → y ≠ j → kat l x ≤ kat l y) ∧ (∀ y, j < y → y ≤ i → kat l j ≤ kat l y)
theorem ins_start {l : List E} {a i : Nat} (h : Sorted l a i) (hi : a ≤ i) : Ins l a i i := ⟨hi, Nat.le_refl _, fun x y h1 h2 h3 h4 h5 => h x y h1 (by omega) (by omega), fun y h1 h2 => by omega⟩
theorem ins_step {l : List E} {a i j : Nat} (h : Ins l a i j) (hj : a < j) (hi : i < l.length) (hlt : kat l j < kat l (j - 1)) : Ins (swapL l j (j - 1)) a i (j - 1) := by
  obtain ⟨g1, g2, g3, g4⟩ := h
  have e : ∀ x, kat (swapL l j (j - 1)) x = if x = j then kat l (j - 1) else if x = j - 1 then kat l j else kat l x := fun x => by
    unfold kat
    rw [swapL_get (by omega) (by omega)]
    split
    · rfl
    · split <;> rfl
  refine ⟨by omega, by omega, fun x y h1 h2 h3 h4 h5 => ?_, fun y h1 h2 => ?_⟩
  · rw [e x, e y, if_neg h4, if_neg h5]
    by_cases e1 : x = j
    · subst e1
      rw [if_pos rfl, if_neg (by omega)]
      exact g3 (x - 1) y (by omega) (by omega) h3 (by omega) (by omega)
    · rw [if_neg e1]
      by_cases e2 : y = j
      · subst e2
        rw [if_pos rfl]
        exact g3 x (y - 1) h1 (by omega) (by omega) e1 (by omega)
      · rw [if_neg e2]
        exact g3 x y h1 h2 h3 e1 e2
  · rw [e (j - 1), e y, if_neg (by omega), if_pos rfl]
    by_cases e2 : y = j
    · subst e2; rw [if_pos rfl]; omega
    · rw [if_neg e2, if_neg (by omega)]; exact g4 y (by omega) h2
theorem ins_end {l : List E} {a i j : Nat} (h : Ins l a i j) (he : j = a ∨ ¬ kat l j < kat l (j - 1)) : Sorted l a (i + 1) := by
  obtain ⟨g1, g2, g3, g4⟩ := h
  intro x y h1 h2 h3
  by_cases e0 : x = y
  · subst e0; exact Int.le_refl _
  · by_cases e1 : x = j
    · subst e1; exact g4 y (by omega) (by omega)
    · by_cases e2 : y = j
      · subst e2
        rcases he with he | he
        · omega
        · by_cases e3 : x = y - 1
          · subst e3; omega
          · have := g3 x (y - 1) h1 (by omega) (by omega) e1 (by omega); omega
      · exact g3 x y h1 (by omega) (by omega) e1 e2

/-- two ranges of n places swapped -/
def SwpF (f : Nat → Option E) (a b n : Nat) : Nat → Option E := fun x => if a ≤ x ∧ x < a + n then f (x + (b - a)) else if b ≤ x ∧ x < b + n then f (x - (b - a)) else f x
/-- the ranges from lo to m and from m to hi in the other order -/
def RotF (f : Nat → Option E) (lo m hi : Nat) : Nat → Option E := fun x => if lo ≤ x ∧ x < lo + (hi - m) then f (x + (m - lo)) else if lo + (hi - m) ≤ x ∧ x < hi then f (x - (hi - m)) else f x
theorem swpF_zero (f : Nat → Option E) (a b : Nat) : SwpF f a b 0 = f := by
  funext x; unfold SwpF; rw [if_neg (by omega), if_neg (by omega)]
theorem swpF_succ {l : List E} {f : Nat → Option E} {a b k : Nat} (h : ∀ x, l[x]? = SwpF f a b k x) (hab : a + k < b) (hl : b + k < l.length) (x : Nat) : (swapL l (a + k) (b + k))[x]? = SwpF f a b (k + 1) x := by
  have q1 : SwpF f a b k (b + k) = f (b + k) := by unfold SwpF; rw [if_neg (by omega), if_neg (by omega)]
  have q2 : SwpF f a b k (a + k) = f (a + k) := by unfold SwpF; rw [if_neg (by omega), if_neg (by omega)]
  rw [swapL_get (by omega) (by omega), h, h, h, q1, q2]
  by_cases e1 : x = a + k
  · subst e1
    unfold SwpF
    rw [if_pos rfl, if_pos (by omega)]
    congr 1; omega
  · rw [if_neg e1]
    by_cases e2 : x = b + k
    · subst e2
      unfold SwpF
      rw [if_pos rfl, if_neg (by omega), if_pos (by omega)]
      congr 1; omega
    · rw [if_neg e2]
      unfold SwpF
      by_cases c1 : a ≤ x ∧ x < a + k
      · rw [if_pos c1, if_pos (by omega)]
      · rw [if_neg c1, if_neg (show ¬ (a ≤ x ∧ x < a + (k + 1)) by omega)]
        by_cases c2 : b ≤ x ∧ x < b + k
        · rw [if_pos c2, if_pos (by omega)]
        · rw [if_neg c2, if_neg (by omega)]
theorem rot_end (f : Nat → Option E) (m i : Nat) (h : i ≤ m) : SwpF f (m - i) m i = RotF f (m - i) m (m + i) := by
  funext x
  unfold SwpF RotF
  have e1 : m + i - m = i := by omega
  rw [e1]
  by_cases c1 : m - i ≤ x ∧ x < m - i + i
  · rw [if_pos c1, if_pos c1]
  · rw [if_neg c1, if_neg c1]
    by_cases c2 : m ≤ x ∧ x < m + i
    · rw [if_pos c2, if_pos (by omega)]; congr 1; omega
    · rw [if_neg c2, if_neg (by omega)]
theorem rot_more (f : Nat → Option E) (m i j : Nat) (h : i ≤ m) (hj : j < i) : RotF (SwpF f (m - i) m j) (m - (i - j)) m (m + j) = RotF f (m - i) m (m + j) := by
  funext x
  unfold RotF
  have e1 : m + j - m = j := by omega
  have e2 : m - (m - (i - j)) = i - j := by omega
  have e3 : m - (m - i) = i := by omega
  rw [e1, e2, e3]
  by_cases c1 : m - i ≤ x ∧ x < m - i + j
  · rw [if_pos c1, if_neg (show ¬ (m - (i - j) ≤ x ∧ x < m - (i - j) + j) by omega), if_neg (show ¬ (m - (i - j) + j ≤ x ∧ x < m + j) by omega)]
    unfold SwpF
    rw [if_pos c1]; congr 1; omega
  · rw [if_neg c1]
    by_cases c2 : m - i + j ≤ x ∧ x < m + j
    · rw [if_pos c2]
      by_cases c3 : m - (i - j) ≤ x ∧ x < m - (i - j) + j
      · rw [if_pos c3]
        unfold SwpF
        by_cases c4 : x + (i - j) < m
        · exfalso; omega
        · rw [if_neg (by omega), if_pos (by omega)]; congr 1; omega
      · rw [if_neg c3, if_pos (by omega)]
        unfold SwpF
        rw [if_neg (by omega), if_neg (by omega)]
    · rw [if_neg c2, if_neg (by omega), if_neg (by omega)]
      unfold SwpF
      rw [if_neg (by omega), if_neg (by omega)]
theorem rot_less (f : Nat → Option E) (m i j : Nat) (h : i ≤ m) (hj : i < j) : RotF (SwpF f (m - i) (m + j - i) i) (m - i) m (m + (j - i)) = RotF f (m - i) m (m + j) := by
  funext x
  unfold RotF
  have e1 : m + j - m = j := by omega
  have e2 : m + (j - i) - m = j - i := by omega
  have e3 : m - (m - i) = i := by omega
  rw [e1, e2, e3]
  by_cases c1 : m - i ≤ x ∧ x < m - i + (j - i)
  · rw [if_pos c1, if_pos (by omega)]
    unfold SwpF
    rw [if_neg (by omega), if_neg (by omega)]
  · rw [if_neg c1]
    by_cases c2 : m - i + (j - i) ≤ x ∧ x < m + (j - i)
    · rw [if_pos c2]
      unfold SwpF
      rw [if_pos (by omega)]
      by_cases c3 : m - i ≤ x ∧ x < m - i + j
      · rw [if_pos c3]; congr 1; omega
      · exfalso; omega
    · rw [if_neg c2]
      unfold SwpF
      by_cases c3 : m + j - i ≤ x ∧ x < m + j - i + i
      · rw [if_neg (by omega), if_pos c3, if_neg (by omega), if_pos (by omega)]; congr 1; omega
      · rw [if_neg (by omega), if_neg c3, if_neg (by omega), if_neg (by omega)]
theorem rot_triv1 (f : Nat → Option E) (lo hi : Nat) (h : lo ≤ hi) : RotF f lo lo hi = f := by
  funext x; unfold RotF
  by_cases c1 : lo ≤ x ∧ x < lo + (hi - lo)
  · rw [if_pos c1]; congr 1; omega
  · rw [if_neg c1, if_neg (by omega)]
theorem rot_triv2 (f : Nat → Option E) (lo hi : Nat) : RotF f lo hi hi = f := by
  funext x; unfold RotF
  by_cases c1 : lo ≤ x ∧ x < lo + (hi - hi)
  · exfalso; omega
  · rw [if_neg c1]
    by_cases c2 : lo + (hi - hi) ≤ x ∧ x < hi
    · rw [if_pos c2]; congr 1; omega
    · rw [if_neg c2]
theorem rot_step {l l' : List E} {lo m hi : Nat} (hp : l'.Perm l) (h : ∀ x, l'[x]? = RotF (fun x => l[x]?) lo m hi x) (h1 : lo ≤ m) (h2 : m ≤ hi) : Step l l' lo hi :=
  ⟨hp, fun x hx => by rw [h x]; unfold RotF; rw [if_neg (by omega), if_neg (by omega)], fun x h3 h4 => by
    rw [h x]; unfold RotF
    by_cases c1 : lo ≤ x ∧ x < lo + (hi - m)
    · exact ⟨x + (m - lo), by omega, by omega, by rw [if_pos c1]⟩
    · exact ⟨x - (hi - m), by omega, by omega, by rw [if_neg c1, if_pos (by omega)]⟩⟩

/-- what has been found when the search of a merge has ended at s -/
structure Cut (l : List E) (a m b s : Nat) : Prop where
  lo : a ≤ s
  hi : s ≤ m
  lo2 : m ≤ (a + b) / 2 + m - s
  hi2 : (a + b) / 2 + m - s ≤ b
  le1 : a < s → (a + b) / 2 + m - s < b → kat l (s - 1) ≤ kat l ((a + b) / 2 + m - s)
  le2 : s < m → m < (a + b) / 2 + m - s → kat l ((a + b) / 2 + m - s - 1) ≤ kat l s

/-- behind the rotation all on the left of the middle is nowhere above what is on its right, and both sides have two parts in order -/
theorem cut_parts {l l' : List E} {a m b s : Nat} (ha : a < m) (hb : m < b) (h1 : Sorted l a m) (h2 : Sorted l m b) (hc : Cut l a m b s)
    (hr : ∀ x, l'[x]? = RotF (fun x => l[x]?) s m ((a + b) / 2 + m - s) x) :
    Sorted l' a s ∧ Sorted l' s ((a + b) / 2) ∧ Sorted l' ((a + b) / 2) ((a + b) / 2 + m - s) ∧ Sorted l' ((a + b) / 2 + m - s) b ∧ (∀ x y, a ≤ x → x < (a + b) / 2 → (a + b) / 2 ≤ y → y < b → kat l' x ≤ kat l' y) ∧ s ≤ (a + b) / 2 ∧ (a + b) / 2 ≤ (a + b) / 2 + m - s := by
  obtain ⟨c1, c2, c3, c4, c5, c6⟩ := hc
  generalize hmid : (a + b) / 2 = mid at *
  have hm1 : a ≤ mid := by omega
  have hm2 : mid < b := by omega
  generalize hend : mid + m - s = fin at *
  have kr : ∀ x, kat l' x = if s ≤ x ∧ x < mid then kat l (x + (m - s)) else if mid ≤ x ∧ x < fin then kat l (x - (fin - m)) else kat l x := fun x => by
    unfold kat
    rw [hr x]
    unfold RotF
    by_cases q1 : s ≤ x ∧ x < mid
    · rw [if_pos (by omega), if_pos q1]
    · rw [if_neg (show ¬ (s ≤ x ∧ x < s + (fin - m)) by omega), if_neg q1]
      by_cases q2 : mid ≤ x ∧ x < fin
      · rw [if_pos (by omega), if_pos q2]
      · rw [if_neg (by omega), if_neg q2]
  have hsm : s ≤ mid := by omega
  have hmf : mid ≤ fin := by omega
  have A : ∀ x, x < s → kat l' x = kat l x := fun x hx => by rw [kr, if_neg (by omega), if_neg (by omega)]
  have B : ∀ x, s ≤ x → x < mid → kat l' x = kat l (x + (m - s)) := fun x hx hx2 => by rw [kr, if_pos ⟨hx, hx2⟩]
  have C : ∀ x, mid ≤ x → x < fin → kat l' x = kat l (x - (fin - m)) := fun x hx hx2 => by rw [kr, if_neg (by omega), if_pos ⟨hx, hx2⟩]
  have D : ∀ x, fin ≤ x → kat l' x = kat l x := fun x hx => by rw [kr, if_neg (by omega), if_neg (by omega)]
  refine ⟨?_, ?_, ?_, ?_, ?_, hsm, hmf⟩
  · intro x y p1 p2 p3
    rw [A x (by omega), A y (by omega)]; exact h1 x y p1 p2 (by omega)
  · intro x y p1 p2 p3
    rw [B x p1 (by omega), B y (by omega) p3]; exact h2 _ _ (by omega) (by omega) (by omega)
  · intro x y p1 p2 p3
    rw [C x p1 (by omega), C y (by omega) p3]; exact h1 _ _ (by omega) (by omega) (by omega)
  · intro x y p1 p2 p3
    rw [D x p1, D y (by omega)]; exact h2 _ _ (by omega) p2 p3
  · intro x y p1 p2 p3 p4
    by_cases q1 : x < s
    · rw [A x q1]
      by_cases q2 : y < fin
      · rw [C y p3 q2]; exact h1 _ _ p1 (by omega) (by omega)
      · rw [D y (by omega)]
        have e1 := h1 x (s - 1) p1 (by omega) (by omega)
        have e2 := c5 (by omega) (by omega)
        have e3 := h2 fin y (by omega) (by omega) p4
        omega
    · rw [B x (by omega) p2]
      by_cases q2 : y < fin
      · rw [C y p3 q2]
        have e1 := h2 (x + (m - s)) (fin - 1) (by omega) (by omega) (by omega)
        have e2 := c6 (by omega) (by omega)
        have e3 := h1 s (y - (fin - m)) (by omega) (by omega) (by omega)
        omega
      · rw [D y (by omega)]; exact h2 _ _ (by omega) (by omega) p4

/-- the whole behind the two halves -/
theorem halves_join {l l' : List E} {a mid b : Nat} (h : ∀ x y, a ≤ x → x < mid → mid ≤ y → y < b → kat l x ≤ kat l y) {l1 : List E} (k1 : Step l l1 a mid) (k2 : Step l1 l' mid b) (s1 : Sorted l1 a mid) (s2 : Sorted l' mid b) : Sorted l' a b := by
  refine sorted_join (s1.far k2 (by omega)) s2 (fun x y p1 p2 p3 p4 => ?_)
  obtain ⟨y', q1, q2, e1⟩ := k2.inn y p3 p4
  rw [kat_of (k2.out x (by omega)), kat_of e1]
  obtain ⟨x', r1, r2, e2⟩ := k1.inn x p1 p2
  rw [kat_of e2, kat_of (k1.out y' (by omega))]
  exact h x' y' r1 r2 q1 q2

/-- one element is led from the front to its place -/
def Led (l : List E) (a k : Nat) : Nat → Option E := fun x => if a ≤ x ∧ x < k then l[x + 1]? else if x = k then l[a]? else l[x]?
theorem led_start (l : List E) (a : Nat) (x : Nat) : l[x]? = Led l a a x := by
  unfold Led; rw [if_neg (by omega)]
  by_cases e : x = a
  · subst e; simp
  · rw [if_neg e]
theorem led_step {l l1 : List E} {a k : Nat} (h : ∀ x, l1[x]? = Led l a k x) (hk : a ≤ k) (hl : k + 1 < l1.length) (x : Nat) : (swapL l1 k (k + 1))[x]? = Led l a (k + 1) x := by
  rw [swapL_get (by omega) (by omega), h, h, h]
  unfold Led
  by_cases e1 : x = k
  · subst e1
    rw [if_pos rfl, if_neg (by omega), if_neg (by omega), if_pos (by omega)]
  · rw [if_neg e1]
    by_cases e2 : x = k + 1
    · subst e2
      rw [if_pos rfl, if_neg (by omega), if_pos rfl, if_neg (by omega), if_pos rfl]
    · rw [if_neg e2]
      by_cases c : a ≤ x ∧ x < k
      · rw [if_pos c, if_pos (by omega)]
      · rw [if_neg c, if_neg e1, if_neg (by omega), if_neg e2]
theorem led_end {l l' : List E} {a i b : Nat} (hp : l'.Perm l) (h : ∀ x, l'[x]? = Led l a (i - 1) x) (ha : a + 1 ≤ i) (hb : i ≤ b) (hs : Sorted l (a + 1) b)
    (hlo : ∀ x, a + 1 ≤ x → x < i → kat l x < kat l a) (hhi : ∀ x, i ≤ x → x < b → ¬ kat l x < kat l a) : Step l l' a b ∧ Sorted l' a b := by
  have kr : ∀ x, kat l' x = if a ≤ x ∧ x < i - 1 then kat l (x + 1) else if x = i - 1 then kat l a else kat l x := fun x => by
    unfold kat
    rw [h x]
    unfold Led
    split
    · rfl
    · split <;> rfl
  refine ⟨⟨hp, fun x hx => ?_, fun x h1 h2 => ?_⟩, fun x y p1 p2 p3 => ?_⟩
  · rw [h x]; unfold Led; rw [if_neg (by omega), if_neg (by omega)]
  · rw [h x]; unfold Led
    by_cases c : a ≤ x ∧ x < i - 1
    · exact ⟨x + 1, by omega, by omega, by rw [if_pos c]⟩
    · by_cases e : x = i - 1
      · exact ⟨a, by omega, by omega, by rw [if_neg c, if_pos e]⟩
      · exact ⟨x, h1, h2, by rw [if_neg c, if_neg e]⟩
  · rw [kr x, kr y]
    by_cases c1 : a ≤ x ∧ x < i - 1
    · rw [if_pos c1]
      by_cases c2 : a ≤ y ∧ y < i - 1
      · rw [if_pos c2]; exact hs _ _ (by omega) (by omega) (by omega)
      · rw [if_neg c2]
        by_cases e2 : y = i - 1
        · rw [if_pos e2]; have := hlo (x + 1) (by omega) (by omega); omega
        · rw [if_neg e2]; exact hs _ _ (by omega) (by omega) p3
    · rw [if_neg c1, if_neg (show ¬ (a ≤ y ∧ y < i - 1) by omega)]
      by_cases e1 : x = i - 1
      · rw [if_pos e1]
        by_cases e2 : y = i - 1
        · rw [if_pos e2]; exact Int.le_refl _
        · rw [if_neg e2]; have := hhi y (by omega) p3; omega
      · rw [if_neg e1, if_neg (by omega)]; exact hs _ _ (by omega) p2 p3

/-- one element is led from the end to its place -/
def Back (l : List E) (m k : Nat) : Nat → Option E := fun x => if k < x ∧ x ≤ m then l[x - 1]? else if x = k then l[m]? else l[x]?
theorem back_start (l : List E) (m : Nat) (x : Nat) : l[x]? = Back l m m x := by
  unfold Back; rw [if_neg (by omega)]
  by_cases e : x = m
  · subst e; simp
  · rw [if_neg e]
theorem back_step {l l1 : List E} {m k : Nat} (h : ∀ x, l1[x]? = Back l m k x) (hk : 0 < k) (hkm : k ≤ m) (hl : m < l1.length) (x : Nat) : (swapL l1 k (k - 1))[x]? = Back l m (k - 1) x := by
  rw [swapL_get (by omega) (by omega), h, h, h]
  unfold Back
  by_cases e1 : x = k
  · subst e1
    rw [if_pos rfl, if_neg (by omega), if_neg (by omega), if_pos (by omega)]
  · rw [if_neg e1]
    by_cases e2 : x = k - 1
    · subst e2
      rw [if_pos rfl, if_neg (by omega), if_pos rfl, if_neg (by omega), if_pos rfl]
    · rw [if_neg e2]
      by_cases c : k < x ∧ x ≤ m
      · rw [if_pos c, if_pos (by omega)]
      · rw [if_neg c, if_neg e1, if_neg (by omega), if_neg e2]
theorem back_end {l l' : List E} {a m i : Nat} (hp : l'.Perm l) (h : ∀ x, l'[x]? = Back l m i x) (ha : a ≤ i) (hb : i ≤ m) (hs : Sorted l a m)
    (hlo : ∀ x, a ≤ x → x < i → ¬ kat l m < kat l x) (hhi : ∀ x, i ≤ x → x < m → kat l m < kat l x) : Step l l' a (m + 1) ∧ Sorted l' a (m + 1) := by
  have kr : ∀ x, kat l' x = if i < x ∧ x ≤ m then kat l (x - 1) else if x = i then kat l m else kat l x := fun x => by
    unfold kat
    rw [h x]
    unfold Back
    split
    · rfl
    · split <;> rfl
  refine ⟨⟨hp, fun x hx => ?_, fun x h1 h2 => ?_⟩, fun x y p1 p2 p3 => ?_⟩
  · rw [h x]; unfold Back; rw [if_neg (by omega), if_neg (by omega)]
  · rw [h x]; unfold Back
    by_cases c : i < x ∧ x ≤ m
    · exact ⟨x - 1, by omega, by omega, by rw [if_pos c]⟩
    · by_cases e : x = i
      · exact ⟨m, by omega, by omega, by rw [if_neg c, if_pos e]⟩
      · exact ⟨x, h1, h2, by rw [if_neg c, if_neg e]⟩
  · rw [kr x, kr y]
    by_cases c1 : i < x ∧ x ≤ m
    · rw [if_pos c1, if_pos (by omega)]; exact hs _ _ (by omega) (by omega) (by omega)
    · rw [if_neg c1]
      by_cases e1 : x = i
      · rw [if_pos e1]
        by_cases c2 : i < y ∧ y ≤ m
        · rw [if_pos c2]; have := hhi (y - 1) (by omega) (by omega); omega
        · rw [if_neg c2, if_pos (by omega)]; exact Int.le_refl _
      · rw [if_neg e1]
        by_cases c2 : i < y ∧ y ≤ m
        · rw [if_pos c2]; exact hs _ _ p1 (by omega) (by omega)
        · rw [if_neg c2]
          by_cases e2 : y = i
          · rw [if_pos e2]; have := hlo x p1 (by omega); omega
          · rw [if_neg e2]; exact hs _ _ p1 p2 (by omega)
end Go.Proofs.Ytjgkekgieodhnaa.Srt
