/- Paths, files and trees, and when they are right: lists alone. -/
import Derived.WalkKit
namespace Go.Proofs.Ytfpgobkedfhakaa.Tre

/-- A file: its path, its mode, its data. -/
structure Fl where
  p : ByteArray
  m : Int
  d : ByteArray
/-- What stands between two signs c of a text, from place f on; seen as far as place i. -/
def splitG (c : UInt8) (t : ByteArray) (f i : Nat) : List ByteArray :=
  if h : i < t.size then (if t[i]'h = c then t.extract f i :: splitG c t (i + 1) (i + 1) else splitG c t f (i + 1)) else [t.extract f t.size]
termination_by t.size - i
theorem split_hit {c : UInt8} {t : ByteArray} (f : Nat) {i : Nat} (h : i < t.size) (hc : t[i]'h = c) : splitG c t f i = t.extract f i :: splitG c t (i + 1) (i + 1) := by rw [splitG, dif_pos h, if_pos hc]
theorem split_miss {c : UInt8} {t : ByteArray} (f : Nat) {i : Nat} (h : i < t.size) (hc : ¬ t[i]'h = c) : splitG c t f i = splitG c t f (i + 1) := by rw [splitG, dif_pos h, if_neg hc]
theorem split_end {c : UInt8} {t : ByteArray} (f : Nat) {i : Nat} (h : ¬ i < t.size) : splitG c t f i = [t.extract f t.size] := by rw [splitG, dif_neg h]
theorem split_len (c : UInt8) (t : ByteArray) : ∀ (n f i : Nat), t.size - i = n → i ≤ t.size → (splitG c t f i).length ≤ n + 1
  | 0, f, i, h, hi => by rw [split_end f (by omega)]; simp
  | n + 1, f, i, h, hi => by
    have hlt : i < t.size := by omega
    by_cases hc : t[i]'hlt = c
    · rw [split_hit f hlt hc]
      have := split_len c t n (i + 1) (i + 1) (by omega) (by omega)
      simp; omega
    · rw [split_miss f hlt hc]
      have := split_len c t n f (i + 1) (by omega) (by omega)
      omega

def okC (c : UInt8) : Bool := (decide (97 ≤ c.toNat) && decide (c.toNat ≤ 122)) || (decide (48 ≤ c.toNat) && decide (c.toNat ≤ 57)) || decide (c.toNat = 45) || decide (c.toNat = 46)
def named (b : ByteArray) : Bool := !(b.toList.isEmpty || b.toList == [46] || b.toList == [46, 46])
def okPart (b : ByteArray) : Bool := named b && b.data.toList.all okC
def pathR (t : ByteArray) : Bool := decide (t.size ≤ 20) && (splitG 47 t 0 0).all okPart && decide ((splitG 47 t 0 0).length ≤ 3)
/-- The same, in one go. -/
def pGo (t : ByteArray) (s i n : Nat) : Bool :=
  if h : i < t.size then (if t[i]'h = 47 then named (t.extract s i) && pGo t (i + 1) (i + 1) (n + 1) else okC (t[i]'h) && pGo t s (i + 1) n) else decide (n ≤ 3) && named (t.extract s t.size)
termination_by t.size - i

theorem len_extract (t : ByteArray) (s e : Nat) : (t.extract s e).data.toList.length = min e t.data.size - s := by
  rw [ByteArray.data_extract, Array.length_toList, Array.size_extract]
theorem get_extract (t : ByteArray) (s e k : Nat) (h : k < (t.extract s e).data.toList.length) : ∃ h2 : s + k < t.size, s + k < e ∧ (t.extract s e).data.toList[k] = t[s + k]'h2 := by
  have hl0 : (t.extract s e).data.toList.length = min e t.data.size - s := len_extract t s e
  rw [hl0] at h
  have h3 : s + k < t.data.size := by omega
  refine ⟨h3, by omega, ?_⟩
  simp [ByteArray.getElem_eq_getElem_data]
theorem all_extract (t : ByteArray) (s e : Nat) (he : e ≤ t.size) : (t.extract s e).data.toList.all okC = true ↔ ∀ k (h : k < t.size), s ≤ k → k < e → okC (t[k]'h) = true := by
  have hts : t.data.size = t.size := rfl
  constructor
  · intro h k hk hs hke
    rw [List.all_eq_true] at h
    have hl0 := len_extract t s e
    have hl : k - s < (t.extract s e).data.toList.length := by rw [hl0]; omega
    have := h _ (List.getElem_mem hl)
    obtain ⟨h2, _, h3⟩ := get_extract t s e (k - s) hl
    rw [h3] at this
    have e1 : s + (k - s) = k := by omega
    simpa only [e1] using this
  · intro h
    rw [List.all_eq_true]
    intro x hx
    obtain ⟨k, hk, rfl⟩ := List.getElem_of_mem hx
    obtain ⟨h2, h4, h3⟩ := get_extract t s e k hk
    rw [h3]
    exact h _ h2 (by omega) h4
theorem bad_split (t : ByteArray) (k : Nat) (hk : k < t.size) (hbad : okC (t[k]'hk) = false) : ∀ (n s i : Nat), t.size - i = n → i ≤ t.size → s ≤ k → k < i → (splitG 47 t s i).all okPart = false
  | 0, s, i, h, hi, h1, h2 => by
    rw [split_end s (by omega)]
    have : (t.extract s t.size).data.toList.all okC = false := by
      rw [Bool.eq_false_iff]; intro e
      have := (all_extract t s t.size (Nat.le_refl _)).1 e k hk h1 hk
      rw [hbad] at this; cases this
    rw [List.all_cons, okPart, this]; simp only [Bool.and_false, Bool.false_and]
  | n + 1, s, i, h, hi, h1, h2 => by
    have hlt : i < t.size := by omega
    by_cases hc : t[i]'hlt = 47
    · rw [split_hit s hlt hc]
      have : (t.extract s i).data.toList.all okC = false := by
        rw [Bool.eq_false_iff]; intro e
        have := (all_extract t s i hi).1 e k hk h1 h2
        rw [hbad] at this; cases this
      rw [List.all_cons, okPart, this]; simp only [Bool.and_false, Bool.false_and]
    · rw [split_miss s hlt hc]
      exact bad_split t k hk hbad n s (i + 1) (by omega) (by omega) h1 (by omega)
theorem pGo_split (t : ByteArray) : ∀ (n s i m : Nat), t.size - i = n → i ≤ t.size → s ≤ i → (∀ k (h : k < t.size), s ≤ k → k < i → okC (t[k]'h) = true) → pGo t s i m = ((splitG 47 t s i).all okPart && decide (m + (splitG 47 t s i).length ≤ 4))
  | 0, s, i, m, h, hi, hs, hok => by
    rw [pGo, dif_neg (by omega), split_end s (by omega)]
    have e : (t.extract s t.size).data.toList.all okC = true := (all_extract t s t.size (Nat.le_refl _)).2 fun k hk h1 h2 => hok k hk h1 (by omega)
    have e2 : decide (m ≤ 3) = decide (m + 1 ≤ 4) := by congr 1; simp
    simp only [List.all_cons, List.all_nil, okPart, e, Bool.and_true, List.length_singleton, e2]
    rw [Bool.and_comm]
  | n + 1, s, i, m, h, hi, hs, hok => by
    have hlt : i < t.size := by omega
    rw [pGo, dif_pos hlt]
    by_cases hc : t[i]'hlt = 47
    · rw [if_pos hc, split_hit s hlt hc, pGo_split t n (i + 1) (i + 1) (m + 1) (by omega) (by omega) (Nat.le_refl _) (fun k _ h1 h2 => by omega)]
      have e : (t.extract s i).data.toList.all okC = true := (all_extract t s i hi).2 fun k hk h1 h2 => hok k hk h1 h2
      have e2 : m + 1 + (splitG 47 t (i + 1) (i + 1)).length = m + (t.extract s i :: splitG 47 t (i + 1) (i + 1)).length := by simp; omega
      rw [e2, List.all_cons, okPart, e, Bool.and_true, Bool.and_assoc]
    · rw [if_neg hc, split_miss s hlt hc]
      cases ho : okC (t[i]'hlt)
      · rw [bad_split t i hlt ho n s (i + 1) (by omega) (by omega) hs (by omega)]; simp
      · rw [pGo_split t n s (i + 1) m (by omega) (by omega) (by omega) (fun k hk h1 h2 => by
          by_cases e : k = i
          · subst e; exact ho
          · exact hok k hk h1 (by omega))]
        simp
theorem pathR_go (t : ByteArray) (h : t.size ≤ 20) : pathR t = pGo t 0 0 1 := by
  rw [pGo_split t (t.size - 0) 0 0 1 rfl (Nat.zero_le _) (Nat.le_refl _) (fun k _ h1 h2 => by omega), pathR, decide_eq_true h, Bool.true_and]
  congr 1
  by_cases e : (splitG 47 t 0 0).length ≤ 3
  · rw [decide_eq_true e, decide_eq_true (by omega)]
  · rw [decide_eq_false e, decide_eq_false (by omega)]
theorem pathR_big {t : ByteArray} (h : ¬ t.size ≤ 20) : pathR t = false := by unfold pathR; simp [h]
theorem pathR_le {t : ByteArray} (h : pathR t = true) : t.size ≤ 20 := by
  rcases Nat.lt_or_ge 20 t.size with h2 | h2
  · rw [pathR_big (by omega)] at h; cases h
  · exact h2
theorem pGo_end {t : ByteArray} {s i n : Nat} (h : ¬ i < t.size) : pGo t s i n = (decide (n ≤ 3) && named (t.extract s t.size)) := by rw [pGo, dif_neg h]
theorem pGo_hit {t : ByteArray} {s i n : Nat} (h : i < t.size) (hc : t[i]'h = 47) : pGo t s i n = (named (t.extract s i) && pGo t (i + 1) (i + 1) (n + 1)) := by rw [pGo, dif_pos h, if_pos hc]
theorem pGo_miss {t : ByteArray} {s i n : Nat} (h : i < t.size) (hc : ¬ t[i]'h = 47) : pGo t s i n = (okC (t[i]'h) && pGo t s (i + 1) n) := by rw [pGo, dif_pos h, if_neg hc]

def fileR (f : Fl) : Bool := pathR f.p && (decide (0 ≤ f.m) && decide (f.m ≤ 511)) && decide (f.d.size ≤ 80)
/-- a is what stands ahead of a stroke of b -/
def ahead (a b : ByteArray) : Bool := decide (a.size < b.size) && decide (b.data.toList.take (a.size + 1) = a.data.toList ++ [47])
def cross (a b : ByteArray) : Bool := ahead a b || ahead b a
def ltT (a b : ByteArray) : Bool := Op.bytesLess a.data.toList b.data.toList
theorem less_total : ∀ x y : List UInt8, (Op.bytesLess x y || x == y) = !Op.bytesLess y x
  | [], [] => by simp [Op.bytesLess]
  | _ :: _, [] => by simp [Op.bytesLess]
  | [], _ :: _ => by simp [Op.bytesLess]
  | a :: x, b :: y => by
    have ih := less_total x y
    have h1 : (a == b) = true ∨ (a == b) = false := by cases a == b <;> simp
    rcases h1 with h1 | h1
    · have e : a = b := by simpa using h1
      subst e
      simp [Op.bytesLess] at *
      rw [← ih]
    · have e2 : (b == a) = false := by rw [beq_eq_false_iff_ne]; intro h; rw [h] at h1; simp at h1
      have hab : (a :: x == b :: y) = false := by rw [beq_eq_false_iff_ne]; intro h; injection h with h _; rw [h] at h1; simp at h1
      have h3 : a.toNat ≠ b.toNat := fun h => by rw [UInt8.toNat_inj.1 h] at h1; simp at h1
      have h4 : decide (a < b) = !decide (b < a) := by
        have e1 : a < b ↔ a.toNat < b.toNat := UInt8.lt_iff_toNat_lt
        have e2 : b < a ↔ b.toNat < a.toNat := UInt8.lt_iff_toNat_lt
        by_cases hl : a.toNat < b.toNat
        · rw [decide_eq_true (e1.2 hl), decide_eq_false (fun h => by have := e2.1 h; omega)]; rfl
        · rw [decide_eq_false (fun h => hl (e1.1 h)), decide_eq_true (e2.2 (by omega))]; rfl
      simp only [Op.bytesLess, hab, h1, e2, Bool.false_and, Bool.or_false, h4]
theorem leq_total (x y : ByteArray) : (Op.bytesLess x.data.toList y.data.toList || x.data.toList == y.data.toList) = !ltT y x := less_total _ _
def goodAt (l : List Fl) (i : Nat) (h : i < l.length) : Bool := fileR l[i] && (decide (i = 0) || ltT (l[i - 1]'(by omega)).p l[i].p) && !((l.take i).any fun f => cross f.p l[i].p)
def treeR (l : List Fl) : Bool := decide (l.length ≤ 6) && decide (∀ i (h : i < l.length), goodAt l i h = true)
theorem treeR_big {l : List Fl} (h : ¬ l.length ≤ 6) : treeR l = false := by unfold treeR; simp [h]
theorem treeR_bad {l : List Fl} (i : Nat) (h : i < l.length) (hb : goodAt l i h = false) : treeR l = false := by
  unfold treeR
  rw [Bool.and_eq_false_iff]
  refine .inr (decide_eq_false fun h2 => ?_)
  rw [h2 i h] at hb; cases hb
theorem treeR_ok {l : List Fl} (h : l.length ≤ 6) (h2 : ∀ i (h : i < l.length), goodAt l i h = true) : treeR l = true := by unfold treeR; simp [h]; exact h2
theorem treeR_le {l : List Fl} (h : treeR l = true) : l.length ≤ 6 := by
  unfold treeR at h; simp at h; exact h.1
theorem treeR_at {l : List Fl} (h : treeR l = true) (i : Nat) (hi : i < l.length) : goodAt l i hi = true := by
  unfold treeR at h; simp at h; exact h.2 i hi
theorem goodAt_file {l : List Fl} {i : Nat} {h : i < l.length} (hg : goodAt l i h = true) : fileR l[i] = true := by
  unfold goodAt at hg; simp at hg; exact hg.1.1
theorem fileR_le {f : Fl} (h : fileR f = true) : f.p.size ≤ 20 ∧ 0 ≤ f.m ∧ f.m ≤ 511 ∧ f.d.size ≤ 80 := by
  unfold fileR at h; simp at h; exact ⟨pathR_le h.1.1, h.1.2.1, h.1.2.2, h.2⟩
end Go.Proofs.Ytfpgobkedfhakaa.Tre
