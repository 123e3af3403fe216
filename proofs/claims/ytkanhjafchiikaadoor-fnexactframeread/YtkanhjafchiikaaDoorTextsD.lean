/- Laws that the proof rests on, put together: What Interp asks and answers, as a function of lists of numbers. What the program's lineRight answers. What the program's closure of weights answers, and sums of pieces as lists. Spread as a function of lists of numbers and of texts. A frame as eight cells, and when it is right. The bytes of a frame as lists of texts; texts put together. What the laws' own functions on frames answer. -/
import Derived.Test.YtkanhjafchiikaaDoorSpecWeights
import Derived.Test.YtkanhjafchiikaaDoorTextsB
import Derived.Test.YtkanhjafchiikaaDoorTextsC
import Derived.Deep.RegionHeld3
import Derived.Deep.QuietTactic
import Derived.BigQuiet
/- What Interp asks and answers, as a function of lists of numbers. -/
namespace Go.Proofs.YtkanhjafchiikaaDoor.Gf
open Go.RowKit Go.Proofs.YtkanhjafchiikaaDoor.Mem

def okAt (xs ys : List Int) (i : Nat) : Bool := el (xs.getD i 0) && el (ys.getD i 0) && (List.range i).all fun j => decide (xs.getD j 0 ≠ xs.getD i 0)
def okAll (xs ys : List Int) : Bool := (List.range xs.length).all (okAt xs ys)
def headOk (xs ys : List Int) (t : Int) : Bool := decide (1 ≤ xs.length) && decide (xs.length ≤ 10) && decide (ys.length = xs.length) && el t
def lineOk (xs ys : List Int) (t : Int) : Bool := headOk xs ys t && okAll xs ys
def interpZ (xs ys : List Int) (t : Int) : Int := if lineOk xs ys t then (line (xs.map Int.toNat) (ys.map Int.toNat) t.toNat : Nat) else 0

theorem getZ {xs : List Int} {j : Nat} (h : j < xs.length) : xs.getD j 0 = xs[j] := by simp [List.getD, h]
theorem okAt_no1 {xs ys : List Int} {i : Nat} (h : el (xs.getD i 0) = false) : okAt xs ys i = false := by unfold okAt; rw [h]; rfl
theorem okAt_no2 {xs ys : List Int} {i : Nat} (h : el (ys.getD i 0) = false) : okAt xs ys i = false := by unfold okAt; rw [h, Bool.and_false]; rfl
theorem okAt_no3 {xs ys : List Int} {i j : Nat} (hj : j < i) (h : xs.getD j 0 = xs.getD i 0) : okAt xs ys i = false := by
  have : ((List.range i).all fun j => decide (xs.getD j 0 ≠ xs.getD i 0)) = false := by
    rw [List.all_eq_false]
    exact ⟨j, by simpa using hj, by rw [h]; simp⟩
  unfold okAt; rw [this]; simp
theorem okAt_yes {xs ys : List Int} {i : Nat} (h1 : el (xs.getD i 0) = true) (h2 : el (ys.getD i 0) = true) (h : ∀ j, j < i → xs.getD j 0 ≠ xs.getD i 0) : okAt xs ys i = true := by
  unfold okAt
  rw [h1, h2, Bool.and_self, Bool.true_and, List.all_eq_true]
  intro j hj
  simpa using h j (by simpa using hj)
theorem okAll_no {xs ys : List Int} {i : Nat} (hi : i < xs.length) (h : okAt xs ys i = false) : okAll xs ys = false := by
  unfold okAll
  rw [List.all_eq_false]
  exact ⟨i, by simpa using hi, by simp [h]⟩
theorem okAll_yes {xs ys : List Int} (h : ∀ i, i < xs.length → okAt xs ys i = true) : okAll xs ys = true := by
  unfold okAll
  rw [List.all_eq_true]
  intro i hi
  exact h i (by simpa using hi)
theorem okAt_el1 {xs ys : List Int} {i : Nat} (h : okAt xs ys i = true) : el (xs.getD i 0) = true := by unfold okAt at h; rw [Bool.and_eq_true, Bool.and_eq_true] at h; exact h.1.1
theorem okAt_el2 {xs ys : List Int} {i : Nat} (h : okAt xs ys i = true) : el (ys.getD i 0) = true := by unfold okAt at h; rw [Bool.and_eq_true, Bool.and_eq_true] at h; exact h.1.2
theorem okAt_ne {xs ys : List Int} {i : Nat} (h : okAt xs ys i = true) (j : Nat) (hj : j < i) : xs.getD j 0 ≠ xs.getD i 0 := by
  unfold okAt at h
  rw [Bool.and_eq_true, List.all_eq_true] at h
  have := h.2 j (by simpa using hj)
  simpa using this
theorem okAll_at {xs ys : List Int} (h : okAll xs ys = true) (i : Nat) (hi : i < xs.length) : okAt xs ys i = true := by
  unfold okAll at h
  rw [List.all_eq_true] at h
  exact h i (by simpa using hi)
theorem interp_no {xs ys : List Int} {t : Int} (h : lineOk xs ys t = false) : interpZ xs ys t = 0 := by unfold interpZ; rw [h]; rfl
theorem interp_no' {xs ys : List Int} {t : Int} {i : Nat} (hi : i < xs.length) (h : okAt xs ys i = false) : interpZ xs ys t = 0 := by
  apply interp_no; unfold lineOk; rw [okAll_no hi h]; simp
theorem interp_yes {xs ys : List Int} {t : Int} (hh : headOk xs ys t = true) (h : ∀ i, i < xs.length → okAt xs ys i = true) : interpZ xs ys t = (line (xs.map Int.toNat) (ys.map Int.toNat) t.toNat : Nat) := by
  unfold interpZ; rw [if_pos]; unfold lineOk; rw [hh, okAll_yes h]; rfl
theorem el_bd {a : Int} (h : el a = true) : 0 ≤ a ∧ a ≤ 255 := by simpa [el] using h
theorem els_of {xs ys : List Int} (hl : ys.length = xs.length) (h : ∀ i, i < xs.length → okAt xs ys i = true) : (∀ x ∈ xs, 0 ≤ x) ∧ (∀ x ∈ ys, 0 ≤ x) ∧ Els (xs.map Int.toNat) ∧ Els (ys.map Int.toNat) := by
  have h1 : ∀ x ∈ xs, 0 ≤ x ∧ x ≤ 255 := fun x hx => by
    obtain ⟨i, hi, rfl⟩ := List.getElem_of_mem hx
    have := el_bd (okAt_el1 (h i hi)); rwa [getZ hi] at this
  have h2 : ∀ x ∈ ys, 0 ≤ x ∧ x ≤ 255 := fun x hx => by
    obtain ⟨i, hi, rfl⟩ := List.getElem_of_mem hx
    have := el_bd (okAt_el2 (h i (by omega))); rwa [getZ hi] at this
  refine ⟨fun x hx => (h1 x hx).1, fun x hx => (h2 x hx).1, fun x hx => ?_, fun x hx => ?_⟩
  · obtain ⟨y, hy, rfl⟩ := List.mem_map.1 hx; have := h1 y hy; omega
  · obtain ⟨y, hy, rfl⟩ := List.mem_map.1 hx; have := h2 y hy; omega
theorem headOk_parts {xs ys : List Int} {t : Int} (h : headOk xs ys t = true) : 1 ≤ xs.length ∧ xs.length ≤ 10 ∧ ys.length = xs.length ∧ el t = true := by
  unfold headOk at h; simp only [Bool.and_eq_true, decide_eq_true_eq] at h; exact ⟨h.1.1.1, h.1.1.2, h.1.2, h.2⟩
theorem headOk_not {xs ys : List Int} {t : Int} (h : headOk xs ys t = false) : xs.length < 1 ∨ (¬ xs.length < 1 ∧ 10 < xs.length) ∨ (¬ xs.length < 1 ∧ ¬ 10 < xs.length ∧ ¬ ys.length = xs.length) ∨ (¬ xs.length < 1 ∧ ¬ 10 < xs.length ∧ ys.length = xs.length ∧ el t = false) := by
  by_cases h1 : xs.length < 1
  · exact .inl h1
  · by_cases h2 : 10 < xs.length
    · exact .inr (.inl ⟨h1, h2⟩)
    · by_cases h3 : ys.length = xs.length
      · refine .inr (.inr (.inr ⟨h1, h2, h3, ?_⟩))
        have a1 : decide (1 ≤ xs.length) = true := decide_eq_true (by omega)
        have a2 : decide (xs.length ≤ 10) = true := decide_eq_true (by omega)
        have a3 : decide (ys.length = xs.length) = true := decide_eq_true h3
        unfold headOk at h
        rw [a1, a2, a3] at h; simpa using h
      · exact .inr (.inr (.inl ⟨h1, h2, h3⟩))
theorem interp_head {xs ys : List Int} {t : Int} (h : headOk xs ys t = false) : interpZ xs ys t = 0 := by
  apply interp_no; unfold lineOk; rw [h]; rfl
theorem sumTo_map (xs ys : List Int) (t : Nat) (k : Nat) (hk : k < ys.length) (y : Nat) (hy : ys[k] = (y : Nat)) :
    sumTo (weight (xs.map Int.toNat) t) (fun i => (ys.map Int.toNat).getD i 0) (k + 1) = sumTo (weight (xs.map Int.toNat) t) (fun i => (ys.map Int.toNat).getD i 0) k ^^^ mul (weight (xs.map Int.toNat) t k) y := by
  rw [sumTo]
  have : (ys.map Int.toNat).getD k 0 = y := by simp [List.getD, hk, hy]
  rw [this]
end Go.Proofs.YtkanhjafchiikaaDoor.Gf

/- What the program's lineRight answers. -/
namespace Go.Proofs.YtkanhjafchiikaaDoor.Gf
open Go.RowKit Go.Proofs.YtkanhjafchiikaaDoor.Mem

theorem lineOk_yes {xs ys : List Int} {t : Int} (hh : headOk xs ys t = true) (h : ∀ i, i < xs.length → okAt xs ys i = true) : lineOk xs ys t = true := by unfold lineOk; rw [hh, okAll_yes h]; rfl
theorem lineOk_no {xs ys : List Int} {t : Int} {i : Nat} (hi : i < xs.length) (h : okAt xs ys i = false) : lineOk xs ys t = false := by unfold lineOk; rw [okAll_no hi h]; simp
theorem lineOk_head {xs ys : List Int} {t : Int} (h : headOk xs ys t = false) : lineOk xs ys t = false := by unfold lineOk; rw [h]; rfl

end Go.Proofs.YtkanhjafchiikaaDoor.Gf

/- What the program's closure of weights answers, and sums of pieces as lists. -/
namespace Go.Proofs.YtkanhjafchiikaaDoor.Gf
open Go.RowKit Go.Proofs.YtkanhjafchiikaaDoor.Mem

/-- What the closure of weights holds: the places xs, and a place t. -/
def Clos (w : World) (bx bt : Nat) (xs : List Nat) (t : Nat) : Prop := ∃ vx, w.cell? ⟨bx, 0, none⟩ = some vx ∧ w.cell? ⟨bt, 0, none⟩ = some (.int .i64 (t : Nat)) ∧ NumsK .i64 w vx xs
theorem Clos.below {w W : World} {bx bt : Nat} {xs : List Nat} {t : Nat} (h : Clos w bx bt xs t) (hb : Below w.heap.size w W) : Clos W bx bt xs t := by
  obtain ⟨vx, h1, h2, h3⟩ := h
  exact ⟨vx, (hb.cell (World.block_lt_of_cell? w _ h1)).trans h1, (hb.cell (World.block_lt_of_cell? w _ h2)).trans h2, h3.below hb⟩

/-- The value v reads as the lists ps of numbers of kind k. -/
def Lists (k : IntKind) (W : World) (v : Value) (ps : List (List Nat)) : Prop :=
  ∃ a cap, v = .slice a ps.length cap ∧ ∀ j (h : j < ps.length), ∃ b o u, a = some ⟨b, o, none⟩ ∧ W.cell? ⟨b, o + j, none⟩ = some u ∧ NumsK k W u ps[j]
theorem Lists.below {k : IntKind} {W W' : World} {v : Value} {l : List (List Nat)} (h : Lists k W v l) (hb : Below W.heap.size W W') : Lists k W' v l := by
  obtain ⟨a, cap, hv, hc⟩ := h
  refine ⟨a, cap, hv, fun j hj => ?_⟩
  obtain ⟨b, o, u, ha, hcell, hn⟩ := hc j hj
  exact ⟨b, o, u, ha, (hb.cell (World.block_lt_of_cell? W _ hcell)).trans hcell, hn.below hb⟩

/-- the sum of the pieces at place j, each as often as c says; the first k of them -/
def mixAt (c : Nat → Nat) (ps : List (List Nat)) (j k : Nat) : Nat := sumTo c (fun i => (ps.getD i []).getD j 0) k
/-- the sum in the midst: at the first m places one piece more -/
def mixRow (c : Nat → Nat) (ps : List (List Nat)) (L i m : Nat) : List Nat := (List.range L).map fun j => if j < m then mixAt c ps j (i + 1) else mixAt c ps j i
def mixed (c : Nat → Nat) (ps : List (List Nat)) (L : Nat) : List Nat := (List.range L).map fun j => mixAt c ps j ps.length
theorem length_mixRow (c : Nat → Nat) (ps : List (List Nat)) (L i m : Nat) : (mixRow c ps L i m).length = L := by simp [mixRow]
theorem mixRow_start (c : Nat → Nat) (ps : List (List Nat)) (L : Nat) (k : IntKind) : ncells k (mixRow c ps L 0 0) = List.replicate L (.int k 0) := by
  apply List.ext_getElem
  · simp [ncells, mixRow]
  · intro j h1 h2; simp [ncells, mixRow, mixAt, sumTo]
theorem mixRow_next (c : Nat → Nat) (ps : List (List Nat)) (L i : Nat) : mixRow c ps L i L = mixRow c ps L (i + 1) 0 := by
  unfold mixRow
  apply List.map_congr_left
  intro j hj
  have : j < L := by simpa using hj
  simp [this]
theorem mixRow_end (c : Nat → Nat) (ps : List (List Nat)) (L : Nat) : mixRow c ps L ps.length 0 = mixed c ps L := by
  unfold mixRow mixed
  apply List.map_congr_left
  intro j hj
  simp
theorem mixRow_at (c : Nat → Nat) (ps : List (List Nat)) (L i m : Nat) (k : IntKind) (hm : m < L) : (ncells k (mixRow c ps L i m))[m]? = some (.int k (mixAt c ps m i : Nat)) := by
  simp [ncells, mixRow, hm]
theorem mixRow_set (c : Nat → Nat) (ps : List (List Nat)) (L i m : Nat) (k : IntKind) : (ncells k (mixRow c ps L i m)).set m (.int k (mixAt c ps m (i + 1) : Nat)) = ncells k (mixRow c ps L i (m + 1)) := by
  apply List.ext_getElem
  · simp [ncells, mixRow]
  · intro j h1 h2
    by_cases e : m = j
    · subst e; simp [ncells, mixRow]
    · rw [List.getElem_set_ne e]
      by_cases e2 : j < m
      · have : j < m + 1 := by omega
        simp [ncells, mixRow, e2, this]
      · have : ¬ j < m + 1 := by omega
        simp [ncells, mixRow, e2, this]
theorem mixAt_succ (c : Nat → Nat) (ps : List (List Nat)) (m i : Nat) (hi : i < ps.length) (hm : m < ps[i].length) : mixAt c ps m (i + 1) = mixAt c ps m i ^^^ mul (c i) ps[i][m] := by
  unfold mixAt
  rw [sumTo]
  simp [List.getD, hi, hm]
theorem mixAt_lt (c : Nat → Nat) (ps : List (List Nat)) (j k : Nat) (hc : ∀ i, c i < 256) : mixAt c ps j k < 256 := sumTo_lt _ _ hc _
end Go.Proofs.YtkanhjafchiikaaDoor.Gf

/- Spread as a function of lists of numbers and of texts. -/
namespace Go.Proofs.YtkanhjafchiikaaDoor.Gf
open Go.RowKit

def toB (l : List Nat) : ByteArray := ⟨(l.map UInt8.ofNat).toArray⟩
def nb (s : ByteArray) : List Nat := s.data.toList.map UInt8.toNat
theorem nb_len (s : ByteArray) : (nb s).length = s.size := by simp [nb]
theorem toB_size (l : List Nat) : (toB l).size = l.length := by unfold toB; show (Array.size _) = _; simp
theorem nb_els (s : ByteArray) : Els (nb s) := fun x hx => by
  obtain ⟨b, _, rfl⟩ := List.mem_map.1 hx; exact b.toNat_lt
theorem toB_nb (s : ByteArray) : toB (nb s) = s := by
  apply ByteArray.ext
  simp [toB, nb, Function.comp_def]
theorem nb_toB {l : List Nat} (h : Els l) : nb (toB l) = l := by
  unfold nb toB
  simp only [List.map_map]
  have : ∀ x ∈ l, (UInt8.toNat ∘ UInt8.ofNat) x = x := fun x hx => by
    have := h x hx
    simp; omega
  rw [List.map_congr_left this]; simp
theorem nb_at (s : ByteArray) (k : Nat) (h : k < s.size) : (nb s)[k]'(by rw [nb_len]; exact h) = (s[k]).toNat := by simp [nb]; rfl

def plen (need size : Nat) : Nat := (size + need - 1) / need
theorem plen_ge {need size : Nat} (h : 0 < need) : size ≤ need * plen need size := by
  unfold plen
  have := Nat.div_add_mod (size + need - 1) need
  have := Nat.mod_lt (size + need - 1) h
  omega
theorem plen_le (need size : Nat) : need * plen need size ≤ size + need - 1 := Nat.mul_div_le _ _
theorem plen_pos {need size : Nat} (h : 0 < need) (h2 : 0 < size) : 0 < plen need size := by
  unfold plen; exact Nat.div_pos (by omega) h
theorem plen_small {need size : Nat} (h : 0 < need) : plen need size ≤ size + need := by
  unfold plen; exact Nat.le_trans (Nat.div_le_self _ _) (by omega)
def pad (s : List Nat) (need : Nat) : List Nat := s ++ List.replicate (need * plen need s.length - s.length) 0
theorem pad_len {s : List Nat} {need : Nat} (h : 0 < need) : (pad s need).length = need * plen need s.length := by
  have := plen_ge (size := s.length) h
  simp [pad]; omega
def cutL (s : List Nat) (need i : Nat) : List Nat := ((pad s need).drop (i * plen need s.length)).take (plen need s.length)
theorem cut_room {need L i : Nat} (h : i < need) : i * L + L ≤ need * L := by
  have : (i + 1) * L ≤ need * L := Nat.mul_le_mul (by omega) (Nat.le_refl _)
  rw [Nat.add_mul] at this; omega
theorem cutL_len {s : List Nat} {need i : Nat} (h : i < need) : (cutL s need i).length = plen need s.length := by
  have := cut_room (L := plen need s.length) h
  have := pad_len (s := s) (need := need) (by omega)
  simp [cutL]; omega
theorem pad_els {s : List Nat} (h : Els s) (need : Nat) : Els (pad s need) := fun x hx => by
  rcases List.mem_append.1 hx with h1 | h1
  · exact h x h1
  · have := (List.mem_replicate.1 h1).2; omega
theorem cutL_els {s : List Nat} (h : Els s) (need i : Nat) : Els (cutL s need i) := fun x hx => pad_els h need x (List.mem_of_mem_drop (List.mem_of_mem_take hx))
def firsts (s : List Nat) (need : Nat) : List (List Nat) := (List.range need).map (cutL s need)
/-- the further piece of the number need + i -/
def rest1 (ps : List (List Nat)) (need L i : Nat) : List Nat := mixed (weight (List.range need) (need + i)) ps L
def rests (ps : List (List Nat)) (need L more : Nat) : List (List Nat) := (List.range more).map (rest1 ps need L)
def spreadL (s : List Nat) (need more : Nat) : List (List Nat) := firsts s need ++ rests (firsts s need) need (plen need s.length) more
theorem firsts_len (s : List Nat) (need : Nat) : (firsts s need).length = need := by simp [firsts]
theorem spreadL_len (s : List Nat) (need more : Nat) : (spreadL s need more).length = need + more := by simp [spreadL, firsts, rests]
theorem mixed_len (c : Nat → Nat) (ps : List (List Nat)) (L : Nat) : (mixed c ps L).length = L := by simp [mixed]
theorem mixed_els (c : Nat → Nat) (ps : List (List Nat)) (L : Nat) (h : ∀ i, c i < 256) : Els (mixed c ps L) := fun x hx => by
  obtain ⟨j, _, rfl⟩ := List.mem_map.1 hx; exact mixAt_lt _ _ _ _ h
theorem firsts_all (s : List Nat) (need : Nat) : ∀ p ∈ firsts s need, p.length = plen need s.length := fun p hp => by
  obtain ⟨i, hi, rfl⟩ := List.mem_map.1 hp; exact cutL_len (by simpa using hi)
theorem firsts_els {s : List Nat} (h : Els s) (need : Nat) : ∀ p ∈ firsts s need, Els p := fun p hp => by
  obtain ⟨i, hi, rfl⟩ := List.mem_map.1 hp; exact cutL_els h _ _
theorem firsts_succ (s : List Nat) (need k : Nat) : (List.range (k + 1)).map (cutL s need) = (List.range k).map (cutL s need) ++ [cutL s need k] := by simp [List.range_succ]
theorem rests_succ (ps : List (List Nat)) (need L k : Nat) : rests ps need L (k + 1) = rests ps need L k ++ [rest1 ps need L k] := by simp [rests, List.range_succ]
theorem range_els {n : Nat} (h : n ≤ 256) : Els (List.range n) := fun x hx => by
  have h2 : x < n := by simpa using hx
  omega
/-- may a group be so? -/
def fineB (need more size : Int) : Bool := isB need 1 6 && isB more 0 4 && isB size 1 100
def spreadO (t : ByteArray) (need more : Int) : List ByteArray := if fineB need more t.size then (spreadL (nb t) need.toNat more.toNat).map toB else []
theorem fine_parts {need more size : Int} (h : fineB need more size = true) : ∃ n m s : Nat, need = n ∧ more = m ∧ size = s ∧ 1 ≤ n ∧ n ≤ 6 ∧ m ≤ 4 ∧ 1 ≤ s ∧ s ≤ 100 := by
  simp only [fineB, isB, Bool.and_eq_true, decide_eq_true_eq] at h
  exact ⟨need.toNat, more.toNat, size.toNat, by omega, by omega, by omega, by omega, by omega, by omega, by omega, by omega⟩
end Go.Proofs.YtkanhjafchiikaaDoor.Gf

/- A frame as eight cells, and when it is right. -/
namespace Go.Proofs.YtkanhjafchiikaaDoor.Frm
open Go.RowKit Go.Proofs.YtkanhjafchiikaaDoor.Gf

/-- A frame: its six numbers, its shard's Index and its Data. -/
structure Fr where
  o : Int
  g : Int
  gs : Int
  n : Int
  m : Int
  s : Int
  x : Int
  t : ByteArray
def Fr.val (f : Fr) : Value := .agg #[.int .i64 f.o, .int .i64 f.g, .int .i64 f.gs, .int .i64 f.n, .int .i64 f.m, .int .i64 f.s, .int .i64 f.x, .string f.t]
def Fr.right (f : Fr) : Bool := isB f.o 1 1000000 && isB f.gs 1 9 && isB f.g 0 (f.gs - 1) && fineB f.n f.m f.s && isB f.x 0 (f.n + f.m - 1) && decide (f.t.size = plen f.n.toNat f.s.toNat)
theorem isB_iff {n l h : Int} : isB n l h = true ↔ l ≤ n ∧ n ≤ h := by simp [isB]
theorem isB_no {n l h : Int} : isB n l h = false ↔ ¬ (l ≤ n ∧ n ≤ h) := by simp [isB]
/-- where the first fault lies -/
theorem Fr.cases (f : Fr) : (isB f.o 1 1000000 = false ∧ f.right = false) ∨ (isB f.o 1 1000000 = true ∧ isB f.gs 1 9 = false ∧ f.right = false) ∨ (isB f.o 1 1000000 = true ∧ isB f.gs 1 9 = true ∧ isB f.g 0 (f.gs - 1) = false ∧ f.right = false) ∨ (isB f.o 1 1000000 = true ∧ isB f.gs 1 9 = true ∧ isB f.g 0 (f.gs - 1) = true ∧ fineB f.n f.m f.s = false ∧ f.right = false) ∨ (isB f.o 1 1000000 = true ∧ isB f.gs 1 9 = true ∧ isB f.g 0 (f.gs - 1) = true ∧ fineB f.n f.m f.s = true ∧ isB f.x 0 (f.n + f.m - 1) = false ∧ f.right = false) ∨ (isB f.o 1 1000000 = true ∧ isB f.gs 1 9 = true ∧ isB f.g 0 (f.gs - 1) = true ∧ fineB f.n f.m f.s = true ∧ isB f.x 0 (f.n + f.m - 1) = true ∧ f.right = decide (f.t.size = plen f.n.toNat f.s.toNat)) := by
  unfold Fr.right
  cases isB f.o 1 1000000 <;> cases isB f.gs 1 9 <;> cases isB f.g 0 (f.gs - 1) <;> cases fineB f.n f.m f.s <;> cases isB f.x 0 (f.n + f.m - 1) <;> simp
end Go.Proofs.YtkanhjafchiikaaDoor.Frm

/- The bytes of a frame as lists of texts; texts put together. -/
namespace Go.Proofs.YtkanhjafchiikaaDoor.Frm
open Go.RowKit Go.Proofs.YtkanhjafchiikaaDoor.Gf

def Fr.nums (f : Fr) : List Int := [f.o, f.g, f.gs, f.n, f.m, f.s, f.x]
/-- texts put together -/
def catB : List ByteArray → ByteArray
  | [] => ByteArray.empty
  | t :: l => t ++ catB l
theorem catB_snoc (l : List ByteArray) (t : ByteArray) : catB (l ++ [t]) = catB l ++ t := by
  induction l with
  | nil => apply ByteArray.ext; simp [catB]
  | cons a l ih => simp only [List.cons_append, catB, ih]; apply ByteArray.ext; simp
def catS : List ByteArray → Nat
  | [] => 0
  | t :: l => t.size + catS l
theorem catB_size (l : List ByteArray) : (catB l).size = catS l := by
  induction l with
  | nil => rfl
  | cons a l ih => simp [catB, catS, ByteArray.size_append, ih]
theorem catS_take (l : List ByteArray) (k : Nat) : catS (l.take k) ≤ catS l := by
  induction l generalizing k with
  | nil => simp [catS]
  | cons a l ih =>
    cases k with
    | zero => simp [catS]
    | succ k => have := ih k; simp [catS]; omega
theorem catS_app (l l' : List ByteArray) : catS (l ++ l') = catS l + catS l' := by
  induction l with
  | nil => simp [catS]
  | cons a l ih => simp [catS, ih]; omega
/-- the texts of which a frame's bytes are put together -/
def Fr.texts (f : Fr) : List ByteArray := f.nums.map PutNum.numB ++ [PutText.textB f.t]
def Fr.bytes (f : Fr) : ByteArray := Seal.sealB (catB f.texts)
def Fr.out (f : Fr) : ByteArray := if f.right then f.bytes else ByteArray.empty
theorem numB_size (n : Int) : 1 ≤ (PutNum.numB n).size ∧ (PutNum.numB n).size ≤ 10 := by
  obtain ⟨h1, h2⟩ := PutNum.length_numL n
  have : (PutNum.numB n).size = (PutNum.numL n).length := rfl
  omega
/-- what is known of a right frame -/
theorem Fr.bounds {f : Fr} (h : f.right = true) : (1 ≤ f.o ∧ f.o ≤ 1000000) ∧ (0 ≤ f.g ∧ f.g ≤ 8) ∧ (1 ≤ f.gs ∧ f.gs ≤ 9) ∧ (1 ≤ f.n ∧ f.n ≤ 6) ∧ (0 ≤ f.m ∧ f.m ≤ 4) ∧ (1 ≤ f.s ∧ f.s ≤ 100) ∧ (0 ≤ f.x ∧ f.x ≤ 9) ∧ f.t.size ≤ 106 := by
  unfold Fr.right at h
  simp only [Bool.and_eq_true, decide_eq_true_eq] at h
  obtain ⟨⟨⟨⟨⟨h1, h2⟩, h3⟩, h4⟩, h5⟩, h6⟩ := h
  obtain ⟨n', m', s', e1, e2, e3, q1, q2, q3, q4, q5⟩ := fine_parts h4
  have a1 := isB_iff.1 h1
  have a2 := isB_iff.1 h2
  have a3 := isB_iff.1 h3
  have a5 := isB_iff.1 h5
  have a6 : f.t.size = plen n' s' := by rw [h6, e1, e3]; simp
  have a7 := plen_small (need := n') (size := s') (by omega)
  refine ⟨a1, ⟨by omega, by omega⟩, a2, ⟨by omega, by omega⟩, ⟨by omega, by omega⟩, ⟨by omega, by omega⟩, ⟨by omega, by omega⟩, by omega⟩
theorem Fr.texts_size {f : Fr} (h : f.t.size ≤ 1000) : catS f.texts ≤ 1080 := by
  have h0 := (numB_size f.o).2
  have h1 := (numB_size f.g).2
  have h2 := (numB_size f.gs).2
  have h3 := (numB_size f.n).2
  have h4 := (numB_size f.m).2
  have h5 := (numB_size f.s).2
  have h6 := (numB_size f.x).2
  have h7 := (numB_size (f.t.size : Nat)).2
  simp only [Fr.texts, Fr.nums, List.map_cons, List.map_nil, List.cons_append, List.nil_append, catS, PutText.textB, ByteArray.size_append]
  omega
end Go.Proofs.YtkanhjafchiikaaDoor.Frm

/- What the laws' own functions on frames answer. -/
namespace Go.Proofs.YtkanhjafchiikaaDoor.Frm
open Go.RowKit Go.Proofs.YtkanhjafchiikaaDoor.Mem Go.Proofs.YtkanhjafchiikaaDoor.Gf Go.Proofs.YtkanhjafchiikaaDoor.Harn

end Go.Proofs.YtkanhjafchiikaaDoor.Frm
