/- Laws that the proof rests on, put together: Spread as a function of lists of numbers and of texts. A frame as eight cells, and when it is right. The bytes of a frame as lists of texts; texts put together. Bodies cut in groups, and the frames of them: texts and lists alone. What the program's mix of numbers answers. What the program's Interp answers. What the laws' own functions on frames answer. -/
import Derived.Test.YtkanhjafchiikabImplCount
import Derived.Test.YtkanhjafchiikabPutText
import Derived.Test.YtkanhjafchiikabTextsB
import Derived.Deep.RegionHeld3
import Derived.Deep.QuietTactic
import Derived.BigQuiet
/- Spread as a function of lists of numbers and of texts. -/
namespace Go.Proofs.Ytkanhjafchiikab.Gf
open Go.RowKit

def toB (l : List Nat) : ByteArray := ⟨(l.map UInt8.ofNat).toArray⟩
def nb (s : ByteArray) : List Nat := s.data.toList.map UInt8.toNat
theorem nb_len (s : ByteArray) : (nb s).length = s.size := by simp [nb]
theorem toB_size (l : List Nat) : (toB l).size = l.length := by unfold toB; show (Array.size _) = _; simp
theorem nb_els (s : ByteArray) : Els (nb s) := fun x hx => by
  obtain ⟨b, _, rfl⟩ := List.mem_map.1 hx; exact b.toNat_lt
theorem toB_nb (s : ByteArray) : toB (nb s) = s := by
  apply ByteArray.ext
  simp [toB, nb, Function.comp_def]
theorem nb_toB {l : List Nat} (h : Els l) : nb (toB l) = l := by
  unfold nb toB
  simp only [List.map_map]
  have : ∀ x ∈ l, (UInt8.toNat ∘ UInt8.ofNat) x = x := fun x hx => by
    have := h x hx
    simp; omega
  rw [List.map_congr_left this]; simp
theorem nb_at (s : ByteArray) (k : Nat) (h : k < s.size) : (nb s)[k]'(by rw [nb_len]; exact h) = (s[k]).toNat := by simp [nb]; rfl

def plen (need size : Nat) : Nat := (size + need - 1) / need
theorem plen_ge {need size : Nat} (h : 0 < need) : size ≤ need * plen need size := by
  unfold plen
  have := Nat.div_add_mod (size + need - 1) need
  have := Nat.mod_lt (size + need - 1) h
  omega
theorem plen_le (need size : Nat) : need * plen need size ≤ size + need - 1 := Nat.mul_div_le _ _
theorem plen_pos {need size : Nat} (h : 0 < need) (h2 : 0 < size) : 0 < plen need size := by
  unfold plen; exact Nat.div_pos (by omega) h
theorem plen_small {need size : Nat} (h : 0 < need) : plen need size ≤ size + need := by
  unfold plen; exact Nat.le_trans (Nat.div_le_self _ _) (by omega)
def pad (s : List Nat) (need : Nat) : List Nat := s ++ List.replicate (need * plen need s.length - s.length) 0
theorem pad_len {s : List Nat} {need : Nat} (h : 0 < need) : (pad s need).length = need * plen need s.length := by
  have := plen_ge (size := s.length) h
  simp [pad]; omega
def cutL (s : List Nat) (need i : Nat) : List Nat := ((pad s need).drop (i * plen need s.length)).take (plen need s.length)
theorem cut_room {need L i : Nat} (h : i < need) : i * L + L ≤ need * L := by
  have : (i + 1) * L ≤ need * L := Nat.mul_le_mul (by omega) (Nat.le_refl _)
  rw [Nat.add_mul] at this; omega
theorem cutL_len {s : List Nat} {need i : Nat} (h : i < need) : (cutL s need i).length = plen need s.length := by
  have := cut_room (L := plen need s.length) h
  have := pad_len (s := s) (need := need) (by omega)
  simp [cutL]; omega
theorem pad_els {s : List Nat} (h : Els s) (need : Nat) : Els (pad s need) := fun x hx => by
  rcases List.mem_append.1 hx with h1 | h1
  · exact h x h1
  · have := (List.mem_replicate.1 h1).2; omega
theorem cutL_els {s : List Nat} (h : Els s) (need i : Nat) : Els (cutL s need i) := fun x hx => pad_els h need x (List.mem_of_mem_drop (List.mem_of_mem_take hx))
def firsts (s : List Nat) (need : Nat) : List (List Nat) := (List.range need).map (cutL s need)
/-- the further piece of the number need + i -/
def rest1 (ps : List (List Nat)) (need L i : Nat) : List Nat := mixed (weight (List.range need) (need + i)) ps L
def rests (ps : List (List Nat)) (need L more : Nat) : List (List Nat) := (List.range more).map (rest1 ps need L)
def spreadL (s : List Nat) (need more : Nat) : List (List Nat) := firsts s need ++ rests (firsts s need) need (plen need s.length) more
theorem firsts_len (s : List Nat) (need : Nat) : (firsts s need).length = need := by simp [firsts]
theorem spreadL_len (s : List Nat) (need more : Nat) : (spreadL s need more).length = need + more := by simp [spreadL, firsts, rests]
theorem mixed_len (c : Nat → Nat) (ps : List (List Nat)) (L : Nat) : (mixed c ps L).length = L := by simp [mixed]
theorem mixed_els (c : Nat → Nat) (ps : List (List Nat)) (L : Nat) (h : ∀ i, c i < 256) : Els (mixed c ps L) := fun x hx => by
  obtain ⟨j, _, rfl⟩ := List.mem_map.1 hx; exact mixAt_lt _ _ _ _ h
theorem firsts_all (s : List Nat) (need : Nat) : ∀ p ∈ firsts s need, p.length = plen need s.length := fun p hp => by
  obtain ⟨i, hi, rfl⟩ := List.mem_map.1 hp; exact cutL_len (by simpa using hi)
theorem firsts_els {s : List Nat} (h : Els s) (need : Nat) : ∀ p ∈ firsts s need, Els p := fun p hp => by
  obtain ⟨i, hi, rfl⟩ := List.mem_map.1 hp; exact cutL_els h _ _
theorem firsts_succ (s : List Nat) (need k : Nat) : (List.range (k + 1)).map (cutL s need) = (List.range k).map (cutL s need) ++ [cutL s need k] := by simp [List.range_succ]
theorem rests_succ (ps : List (List Nat)) (need L k : Nat) : rests ps need L (k + 1) = rests ps need L k ++ [rest1 ps need L k] := by simp [rests, List.range_succ]
theorem range_els {n : Nat} (h : n ≤ 256) : Els (List.range n) := fun x hx => by
  have h2 : x < n := by simpa using hx
  omega
/-- may a group be so? -/
def fineB (need more size : Int) : Bool := isB need 1 6 && isB more 0 4 && isB size 1 100
def spreadO (t : ByteArray) (need more : Int) : List ByteArray := if fineB need more t.size then (spreadL (nb t) need.toNat more.toNat).map toB else []
theorem fine_parts {need more size : Int} (h : fineB need more size = true) : ∃ n m s : Nat, need = n ∧ more = m ∧ size = s ∧ 1 ≤ n ∧ n ≤ 6 ∧ m ≤ 4 ∧ 1 ≤ s ∧ s ≤ 100 := by
  simp only [fineB, isB, Bool.and_eq_true, decide_eq_true_eq] at h
  exact ⟨need.toNat, more.toNat, size.toNat, by omega, by omega, by omega, by omega, by omega, by omega, by omega, by omega⟩
end Go.Proofs.Ytkanhjafchiikab.Gf

/- A frame as eight cells, and when it is right. -/
namespace Go.Proofs.Ytkanhjafchiikab.Frm
open Go.RowKit Go.Proofs.Ytkanhjafchiikab.Gf

/-- A frame: its six numbers, its shard's Index and its Data. -/
structure Fr where
  o : Int
  g : Int
  gs : Int
  n : Int
  m : Int
  s : Int
  x : Int
  t : ByteArray
def Fr.val (f : Fr) : Value := .agg #[.int .i64 f.o, .int .i64 f.g, .int .i64 f.gs, .int .i64 f.n, .int .i64 f.m, .int .i64 f.s, .int .i64 f.x, .string f.t]
def Fr.right (f : Fr) : Bool := isB f.o 1 1000000 && isB f.gs 1 9 && isB f.g 0 (f.gs - 1) && fineB f.n f.m f.s && isB f.x 0 (f.n + f.m - 1) && decide (f.t.size = plen f.n.toNat f.s.toNat)
theorem isB_iff {n l h : Int} : isB n l h = true ↔ l ≤ n ∧ n ≤ h := by simp [isB]
theorem isB_no {n l h : Int} : isB n l h = false ↔ ¬ (l ≤ n ∧ n ≤ h) := by simp [isB]
/-- where the first fault lies -/
theorem Fr.cases (f : Fr) : (isB f.o 1 1000000 = false ∧ f.right = false) ∨ (isB f.o 1 1000000 = true ∧ isB f.gs 1 9 = false ∧ f.right = false) ∨ (isB f.o 1 1000000 = true ∧ isB f.gs 1 9 = true ∧ isB f.g 0 (f.gs - 1) = false ∧ f.right = false) ∨ (isB f.o 1 1000000 = true ∧ isB f.gs 1 9 = true ∧ isB f.g 0 (f.gs - 1) = true ∧ fineB f.n f.m f.s = false ∧ f.right = false) ∨ (isB f.o 1 1000000 = true ∧ isB f.gs 1 9 = true ∧ isB f.g 0 (f.gs - 1) = true ∧ fineB f.n f.m f.s = true ∧ isB f.x 0 (f.n + f.m - 1) = false ∧ f.right = false) ∨ (isB f.o 1 1000000 = true ∧ isB f.gs 1 9 = true ∧ isB f.g 0 (f.gs - 1) = true ∧ fineB f.n f.m f.s = true ∧ isB f.x 0 (f.n + f.m - 1) = true ∧ f.right = decide (f.t.size = plen f.n.toNat f.s.toNat)) := by
  unfold Fr.right
  cases isB f.o 1 1000000 <;> cases isB f.gs 1 9 <;> cases isB f.g 0 (f.gs - 1) <;> cases fineB f.n f.m f.s <;> cases isB f.x 0 (f.n + f.m - 1) <;> simp
end Go.Proofs.Ytkanhjafchiikab.Frm

/- The bytes of a frame as lists of texts; texts put together. -/
namespace Go.Proofs.Ytkanhjafchiikab.Frm
open Go.RowKit Go.Proofs.Ytkanhjafchiikab.Gf

def Fr.nums (f : Fr) : List Int := [f.o, f.g, f.gs, f.n, f.m, f.s, f.x]
/-- texts put together -/
def catB : List ByteArray → ByteArray
  | [] => ByteArray.empty
  | t :: l => t ++ catB l
theorem catB_snoc (l : List ByteArray) (t : ByteArray) : catB (l ++ [t]) = catB l ++ t := by
  induction l with
  | nil => apply ByteArray.ext; simp [catB]
  | cons a l ih => simp only [List.cons_append, catB, ih]; apply ByteArray.ext; simp
def catS : List ByteArray → Nat
  | [] => 0
  | t :: l => t.size + catS l
theorem catB_size (l : List ByteArray) : (catB l).size = catS l := by
  induction l with
  | nil => rfl
  | cons a l ih => simp [catB, catS, ByteArray.size_append, ih]
theorem catS_take (l : List ByteArray) (k : Nat) : catS (l.take k) ≤ catS l := by
  induction l generalizing k with
  | nil => simp [catS]
  | cons a l ih =>
    cases k with
    | zero => simp [catS]
    | succ k => have := ih k; simp [catS]; omega
theorem catS_app (l l' : List ByteArray) : catS (l ++ l') = catS l + catS l' := by
  induction l with
  | nil => simp [catS]
  | cons a l ih => simp [catS, ih]; omega
/-- the texts of which a frame's bytes are put together -/
def Fr.texts (f : Fr) : List ByteArray := f.nums.map PutNum.numB ++ [PutText.textB f.t]
def Fr.bytes (f : Fr) : ByteArray := Seal.sealB (catB f.texts)
def Fr.out (f : Fr) : ByteArray := if f.right then f.bytes else ByteArray.empty
theorem numB_size (n : Int) : 1 ≤ (PutNum.numB n).size ∧ (PutNum.numB n).size ≤ 10 := by
  obtain ⟨h1, h2⟩ := PutNum.length_numL n
  have : (PutNum.numB n).size = (PutNum.numL n).length := rfl
  omega
/-- what is known of a right frame -/
theorem Fr.bounds {f : Fr} (h : f.right = true) : (1 ≤ f.o ∧ f.o ≤ 1000000) ∧ (0 ≤ f.g ∧ f.g ≤ 8) ∧ (1 ≤ f.gs ∧ f.gs ≤ 9) ∧ (1 ≤ f.n ∧ f.n ≤ 6) ∧ (0 ≤ f.m ∧ f.m ≤ 4) ∧ (1 ≤ f.s ∧ f.s ≤ 100) ∧ (0 ≤ f.x ∧ f.x ≤ 9) ∧ f.t.size ≤ 106 := by
  unfold Fr.right at h
  simp only [Bool.and_eq_true, decide_eq_true_eq] at h
  obtain ⟨⟨⟨⟨⟨h1, h2⟩, h3⟩, h4⟩, h5⟩, h6⟩ := h
  obtain ⟨n', m', s', e1, e2, e3, q1, q2, q3, q4, q5⟩ := fine_parts h4
  have a1 := isB_iff.1 h1
  have a2 := isB_iff.1 h2
  have a3 := isB_iff.1 h3
  have a5 := isB_iff.1 h5
  have a6 : f.t.size = plen n' s' := by rw [h6, e1, e3]; simp
  have a7 := plen_small (need := n') (size := s') (by omega)
  refine ⟨a1, ⟨by omega, by omega⟩, a2, ⟨by omega, by omega⟩, ⟨by omega, by omega⟩, ⟨by omega, by omega⟩, ⟨by omega, by omega⟩, by omega⟩
theorem Fr.texts_size {f : Fr} (h : f.t.size ≤ 1000) : catS f.texts ≤ 1080 := by
  have h0 := (numB_size f.o).2
  have h1 := (numB_size f.g).2
  have h2 := (numB_size f.gs).2
  have h3 := (numB_size f.n).2
  have h4 := (numB_size f.m).2
  have h5 := (numB_size f.s).2
  have h6 := (numB_size f.x).2
  have h7 := (numB_size (f.t.size : Nat)).2
  simp only [Fr.texts, Fr.nums, List.map_cons, List.map_nil, List.cons_append, List.nil_append, catS, PutText.textB, ByteArray.size_append]
  omega
end Go.Proofs.Ytkanhjafchiikab.Frm

/- Bodies cut in groups, and the frames of them: texts and lists alone. -/
namespace Go.Proofs.Ytkanhjafchiikab.Frm
open Go.RowKit Go.Proofs.Ytkanhjafchiikab.Gf

/-- how many groups a body of that size has -/
def groupsN (size : Nat) : Nat := (size + 99) / 100
/-- the size of the group i -/
def groupZ (size i : Nat) : Nat := min (size - 100 * i) 100
/-- the group i of a body -/
def groupT (body : ByteArray) (i : Nat) : ByteArray := body.extract (100 * i) (100 * i + groupZ body.size i)
theorem groups_lt {size i : Nat} : i < groupsN size ↔ 100 * i < size := by unfold groupsN; omega
theorem groups_le {size : Nat} (h : size ≤ 900) : groupsN size ≤ 9 := by unfold groupsN; omega
theorem groups_pos {size : Nat} (h : 1 ≤ size) : 1 ≤ groupsN size := by unfold groupsN; omega
theorem groupZ_bd {size i : Nat} (h : i < groupsN size) : 1 ≤ groupZ size i ∧ groupZ size i ≤ 100 ∧ 100 * i + groupZ size i ≤ size := by
  have := groups_lt.1 h
  unfold groupZ
  omega
theorem groupT_size {body : ByteArray} {i : Nat} (h : i < groupsN body.size) : (groupT body i).size = groupZ body.size i := by
  have := groupZ_bd h
  unfold groupT
  rw [ByteArray.size_extract]; omega
theorem groupT_at {body : ByteArray} {i : Nat} (h : i < groupsN body.size) (j : Nat) (hj : j < (groupT body i).size) : (groupT body i)[j] = body[100 * i + j]'(by have h1 := groupZ_bd h; have h2 := groupT_size h; omega) := by
  exact ByteArray.getElem_extract hj
theorem fine_any {need more : Int} {size : Nat} (h1 : 1 ≤ size) (h2 : size ≤ 100) : fineB need more (size : Nat) = fineB need more 1 := by
  have e1 : isB (size : Int) 1 100 = true := isB_iff.2 (by omega)
  have e2 : isB 1 1 100 = true := rfl
  unfold fineB
  rw [e1, e2]
/-- the frame x of the group g -/
def frameOf (o : Int) (body : ByteArray) (n m g x : Nat) : Fr := ⟨o, (g : Nat), (groupsN body.size : Nat), (n : Nat), (m : Nat), ((groupT body g).size : Nat), (x : Nat), toB ((spreadL (nb (groupT body g)) n m).getD x [])⟩
theorem frameOf_right {o : Int} {body : ByteArray} {n m g x : Nat} (ho : isB o 1 1000000 = true) (hb : body.size ≤ 900) (hf : fineB (n : Nat) (m : Nat) 1 = true) (hg : g < groupsN body.size) (hx : x < n + m) : (frameOf o body n m g x).right = true := by
  have h9 := groups_le hb
  have hz := groupT_size hg
  have hzb := groupZ_bd hg
  obtain ⟨n', m', s', e1, e2, e3, q1, q2, q3, q4, q5⟩ := fine_parts hf
  have hsz : (toB ((spreadL (nb (groupT body g)) n m).getD x [])).size = plen n (groupT body g).size := by
    rw [toB_size]
    by_cases h : x < n
    · unfold spreadL
      have hl := firsts_len (nb (groupT body g)) n
      rw [List.getD, List.getElem?_append_left (by omega)]
      simp [firsts, h, cutL_len h, nb_len]
    · unfold spreadL
      have hl := firsts_len (nb (groupT body g)) n
      rw [List.getD, List.getElem?_append_right (by omega), hl]
      have : x - n < m := by omega
      simp [rests, this, rest1, mixed_len, nb_len]
  have hf2 : fineB (n : Nat) (m : Nat) ((groupT body g).size : Nat) = true := by rw [fine_any (by omega) (by omega)]; exact hf
  have h3 : isB ((groupsN body.size : Nat) : Int) 1 9 = true := isB_iff.2 (by omega)
  have h4 : isB ((g : Nat) : Int) 0 (((groupsN body.size : Nat) : Int) - 1) = true := isB_iff.2 (by omega)
  have h5 : isB ((x : Nat) : Int) 0 ((n : Int) + m - 1) = true := isB_iff.2 (by omega)
  unfold Fr.right frameOf
  dsimp only
  rw [ho, h3, h4, hf2, h5]
  simp only [Int.toNat_natCast, Bool.and_true, Bool.true_and, decide_eq_true_eq]
  exact hsz
/-- the bytes of the frames of the group g -/
def framesL (o : Int) (body : ByteArray) (n m g : Nat) : List ByteArray := (List.range (n + m)).map fun x => (frameOf o body n m g x).bytes
theorem framesL_len (o : Int) (body : ByteArray) (n m g : Nat) : (framesL o body n m g).length = n + m := by simp [framesL]
/-- the first x of them -/
def framesTo (o : Int) (body : ByteArray) (n m g x : Nat) : List ByteArray := (List.range x).map fun x => (frameOf o body n m g x).bytes
theorem framesTo_succ (o : Int) (body : ByteArray) (n m g x : Nat) : framesTo o body n m g (x + 1) = framesTo o body n m g x ++ [(frameOf o body n m g x).bytes] := by simp [framesTo, List.range_succ]
theorem framesTo_len (o : Int) (body : ByteArray) (n m g x : Nat) : (framesTo o body n m g x).length = x := by simp [framesTo]
theorem framesTo_all (o : Int) (body : ByteArray) (n m g : Nat) : framesTo o body n m g (n + m) = framesL o body n m g := rfl
/-- the frames of the first g groups -/
def cutTo (o : Int) (body : ByteArray) (n m g : Nat) : List ByteArray := (List.range g).flatMap (framesL o body n m)
theorem cutTo_succ (o : Int) (body : ByteArray) (n m g : Nat) : cutTo o body n m (g + 1) = cutTo o body n m g ++ framesL o body n m g := by
  unfold cutTo; rw [List.range_succ, List.flatMap_append]; simp
theorem cutTo_len (o : Int) (body : ByteArray) (n m g : Nat) : (cutTo o body n m g).length = g * (n + m) := by
  induction g with
  | zero => simp [cutTo]
  | succ g ih => rw [cutTo_succ, List.length_append, ih, framesL_len, Nat.add_mul, Nat.one_mul]
def cutOk (o : Int) (body : ByteArray) (need more : Int) : Bool := decide (1 ≤ body.size ∧ body.size ≤ 900) && isB o 1 1000000 && fineB need more 1
def cutO (o : Int) (body : ByteArray) (need more : Int) : List ByteArray := if cutOk o body need more = true then cutTo o body need.toNat more.toNat (groupsN body.size) else []
theorem cutO_len (o : Int) (body : ByteArray) (need more : Int) : (cutO o body need more).length ≤ 100 := by
  unfold cutO
  split
  · rename_i h
    unfold cutOk at h
    simp only [Bool.and_eq_true, decide_eq_true_eq] at h
    obtain ⟨n', m', s', e1, e2, e3, q1, q2, q3, q4, q5⟩ := fine_parts h.2
    subst e1 e2
    rw [cutTo_len]
    have h9 := groups_le h.1.1.2
    have : groupsN body.size * (n' + m') ≤ 9 * 10 := Nat.mul_le_mul h9 (by omega)
    simp only [Int.toNat_natCast]; omega
  · simp
end Go.Proofs.Ytkanhjafchiikab.Frm

/- What the program's mix of numbers answers. -/
namespace Go.Proofs.Ytkanhjafchiikab.Gf
open Go.RowKit Go.Proofs.Ytkanhjafchiikab.Mem

end Go.Proofs.Ytkanhjafchiikab.Gf

/- What the program's Interp answers. -/
namespace Go.Proofs.Ytkanhjafchiikab.Gf
open Go.RowKit Go.Proofs.Ytkanhjafchiikab.Mem

theorem infoI64s : (Try.prog.info? 45).map (fun i => (i.zero, i.size, i.bytes)) = some (some (.slice none 0 0), 1, 24) := by kernel_rfl
/-- Of n lists of one number the first k, in the blocks from B on. -/
def boxes (B n k : Nat) : List Value := (List.range n).map fun j => if j < k then .slice (some ⟨B + j, 0, none⟩) 1 1 else .slice none 0 0
theorem boxes_start (B n : Nat) : boxes B n 0 = List.replicate n (.slice none 0 0) := by
  apply List.ext_getElem
  · simp [boxes]
  · intro j h1 h2; simp [boxes]
theorem boxes_at (B n k : Nat) (h : k < n) : (boxes B n k)[k]? = some (.slice none 0 0) := by simp [boxes, h]
theorem boxes_in (B n k j : Nat) (hj : j < k) (hk : k ≤ n) : (boxes B n k)[j]? = some (.slice (some ⟨B + j, 0, none⟩) 1 1) := by
  have : j < n := by omega
  simp [boxes, this, hj]
theorem boxes_set (B n k : Nat) : (boxes B n k).set k (.slice (some ⟨B + k, 0, none⟩) 1 1) = boxes B n (k + 1) := by
  apply List.ext_getElem
  · simp [boxes]
  · intro j h1 h2
    by_cases e : k = j
    · subst e; simp [boxes]
    · rw [List.getElem_set_ne e]
      by_cases e2 : j < k
      · have : j < k + 1 := by omega
        simp [boxes, e2, this]
      · have : ¬ j < k + 1 := by omega
        simp [boxes, e2, this]
/-- The lists of one number each. -/
def ones (ys : List Nat) : List (List Nat) := ys.map fun y => [y]
theorem mixed_ones (c : Nat → Nat) (ys : List Nat) : mixed c (ones ys) 1 = [sumTo c (fun i => ys.getD i 0) ys.length] := by
  have : ∀ k, mixAt c (ones ys) 0 k = sumTo c (fun i => ys.getD i 0) k := by
    intro k
    unfold mixAt
    congr 1
    funext i
    by_cases h : i < ys.length <;> simp [ones, List.getD, h]
  have e : mixed c (ones ys) 1 = [mixAt c (ones ys) 0 (ones ys).length] := rfl
  rw [e, this]
  simp [ones]

theorem els_ones {ys : List Nat} (h : Els ys) : ∀ p ∈ ones ys, Els p := fun p hp x hx => by
  obtain ⟨y, hy, rfl⟩ := List.mem_map.1 hp
  simp at hx; subst hx; exact h _ hy
theorem len_ones (ys : List Nat) : ∀ p ∈ ones ys, p.length = 1 := fun p hp => by
  obtain ⟨y, hy, rfl⟩ := List.mem_map.1 hp; rfl
theorem lists_ones {W : World} {g B : Nat} {ys : List Nat} {T : TypeId} (hr : HasRow W g (boxes B ys.length ys.length) T) (hc : ∀ j (h : j < ys.length), W.cell? ⟨B + j, 0, none⟩ = some (.int .i64 (ys[j] : Nat))) (cap : Nat) : Lists .i64 W (.slice (some ⟨g, 0, none⟩) ys.length cap) (ones ys) := by
  have hl : (ones ys).length = ys.length := by simp [ones]
  refine ⟨_, cap, by rw [hl], fun j hj => ?_⟩
  have hj2 : j < ys.length := by omega
  refine ⟨g, 0, .slice (some ⟨B + j, 0, none⟩) 1 1, rfl, ?_, ?_⟩
  · rw [Nat.zero_add, Mem.cell_of_row hr, boxes_in _ _ _ _ hj2 (Nat.le_refl _)]
  · have e : (ones ys)[j] = [ys[j]] := by simp [ones]
    rw [e]
    refine ⟨_, 1, rfl, fun i hi => ⟨_, 0, rfl, ?_⟩⟩
    obtain rfl : i = 0 := by simpa using hi
    exact hc j hj2

theorem countsAt_any (vx : Value) (xs : List Nat) (t : Nat) (w : World) (h : NumsK .i64 w vx xs) :
    Calls Try.prog 30 #[vx, .int .i64 t] w fun e w' => ∃ bx bt, e = .returned (.func (.func 44) #[] #[.pointer (some ⟨bx, 0, none⟩), .pointer (some ⟨bt, 0, none⟩)]) ∧ Clos w' bx bt xs t ∧ Below w.heap.size w w' := by
  have hmf : ∀ W x y, (Instr.makeFunc (Fn.func 44) #[] #[x, y]).run Try.prog W = .ok (.func (.func 44) #[] #[x, y]) W := fun _ _ _ => rfl
  have HB : Hid (∀ o o', Below w.heap.size w ((w.alloc o).alloc o')) := fun o o' => balloc (balloc (Below.refl _ _) o) o'
  have HN : Hid (NumsK .i64 w vx xs) := h
  obtain ⟨a, cap, rfl⟩ := h.shape
  clear h
  go_enter Try.func30, Try.ntmps30
  go_wp2
  go_ret
  exact ⟨_, _, rfl, ⟨_, by simp, by simp, HN.out.below (HB.out _ _)⟩, HB.out _ _⟩

end Go.Proofs.Ytkanhjafchiikab.Gf

/- What the laws' own functions on frames answer. -/
namespace Go.Proofs.Ytkanhjafchiikab.Frm
open Go.RowKit Go.Proofs.Ytkanhjafchiikab.Mem Go.Proofs.Ytkanhjafchiikab.Gf Go.Proofs.Ytkanhjafchiikab.Harn

end Go.Proofs.Ytkanhjafchiikab.Frm
