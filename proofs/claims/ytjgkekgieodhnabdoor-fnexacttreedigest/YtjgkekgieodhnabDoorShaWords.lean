/- The numbers of a block as they come to stand in memory, byte by byte and one behind the other. -/
import Derived.Test.YtjgkekgieodhnabDoorTextsA
namespace Go.Proofs.YtjgkekgieodhnabDoor.Sha
open Go.RowKit Go.Proofs.YtjgkekgieodhnabDoor.Mem

def u32s (l : List Nat) : List Value := l.map fun n : Nat => Value.int .u32 (n : Int)
def i64s (l : List Nat) : List Value := l.map fun n : Nat => Value.int .i64 (n : Int)
theorem length_u32s (l : List Nat) : (u32s l).length = l.length := by simp [u32s]
theorem u32s_append (a b : List Nat) : u32s (a ++ b) = u32s a ++ u32s b := by simp [u32s]
theorem u32s_one (l : List Nat) : ∀ v ∈ u32s l, v.oneCell' = true := by
  intro v hv
  simp only [u32s, List.mem_map] at hv
  obtain ⟨n, _, rfl⟩ := hv
  rfl

theorem byte_lt (c : UInt8) : c.toNat < 256 := c.toNat_lt

/-- The number j of a block behind its first i bytes. -/
def wc (b : ByteArray) (j : Nat) : Nat → Nat
  | 0 => 0
  | i + 1 => if j = i / 4 then (wc b j i * 256 % 4294967296) ||| (b[i]?.getD 0).toNat else wc b j i
def wcs (b : ByteArray) (i : Nat) : List Nat := (List.range 64).map fun j => wc b j i

theorem wc_lt (b : ByteArray) (j : Nat) : ∀ i, wc b j i < 4294967296
  | 0 => by simp [wc]
  | i + 1 => by
    unfold wc
    split
    · have := byte_lt (b[i]?.getD 0)
      exact or_lt (Nat.mod_lt _ (by omega)) (by omega)
    · exact wc_lt b j i
theorem wc_early (b : ByteArray) (j : Nat) : ∀ i, i ≤ 4 * j → wc b j i = 0
  | 0, _ => rfl
  | i + 1, h => by
    unfold wc
    rw [if_neg (by omega)]
    exact wc_early b j i (by omega)
theorem wc_late (b : ByteArray) (j : Nat) : ∀ i, 4 * j + 4 ≤ i → wc b j i = wc b j (4 * j + 4)
  | 0, h => by omega
  | i + 1, h => by
    by_cases e : i + 1 = 4 * j + 4
    · rw [e]
    · rw [← wc_late b j i (by omega)]
      show (if j = i / 4 then _ else _) = _
      rw [if_neg (by omega)]
theorem mul_or (a b : Nat) : (a ||| b) * 256 = a * 256 ||| b * 256 := by
  have := Nat.shiftLeft_or_distrib (a := a) (b := b) (i := 8)
  simpa [Nat.shiftLeft_eq] using this
theorem wc_four (b : ByteArray) (j : Nat) : wc b j (4 * j + 4) = word b j := by
  have h0 := byte_lt (b[4 * j]?.getD 0)
  have h1 := byte_lt (b[4 * j + 1]?.getD 0)
  have h2 := byte_lt (b[4 * j + 2]?.getD 0)
  have e0 : wc b j (4 * j) = 0 := wc_early b j _ (Nat.le_refl _)
  have e1 : wc b j (4 * j + 1) = (b[4 * j]?.getD 0).toNat := by
    show (if j = (4 * j) / 4 then _ else _) = _
    rw [if_pos (by omega), e0]
    simp
  have e2 : wc b j (4 * j + 2) = (wc b j (4 * j + 1) * 256 % 4294967296) ||| (b[4 * j + 1]?.getD 0).toNat := by
    show (if j = (4 * j + 1) / 4 then _ else _) = _
    rw [if_pos (by omega)]
  have e3 : wc b j (4 * j + 3) = (wc b j (4 * j + 2) * 256 % 4294967296) ||| (b[4 * j + 2]?.getD 0).toNat := by
    show (if j = (4 * j + 2) / 4 then _ else _) = _
    rw [if_pos (by omega)]
  have e4 : wc b j (4 * j + 4) = (wc b j (4 * j + 3) * 256 % 4294967296) ||| (b[4 * j + 3]?.getD 0).toNat := by
    show (if j = (4 * j + 3) / 4 then _ else _) = _
    rw [if_pos (by omega)]
  unfold word
  rw [e4, e3, e2, e1]
  generalize (b[4 * j]?.getD 0).toNat = x0 at *
  generalize (b[4 * j + 1]?.getD 0).toNat = x1 at *
  generalize (b[4 * j + 2]?.getD 0).toNat = x2 at *
  generalize (b[4 * j + 3]?.getD 0).toNat = x3 at *
  have m1 : x0 * 256 % 4294967296 = x0 * 256 := by omega
  rw [m1]
  have l1 : x0 * 256 ||| x1 < 65536 := Nat.or_lt_two_pow (n := 16) (by omega) (by omega)
  rw [Nat.mod_eq_of_lt (by omega : (x0 * 256 ||| x1) * 256 < 4294967296)]
  have l2 : (x0 * 256 ||| x1) * 256 ||| x2 < 16777216 := Nat.or_lt_two_pow (n := 24) (by omega) (by omega)
  rw [Nat.mod_eq_of_lt (by omega : ((x0 * 256 ||| x1) * 256 ||| x2) * 256 < 4294967296)]
  rw [mul_or, mul_or, mul_or]
  simp only [Nat.mul_assoc]
theorem wcs_start (b : ByteArray) : wcs b 0 = List.replicate 64 0 := by
  unfold wcs
  simp only [wc]
  rfl
theorem wcs_end (b : ByteArray) : wcs b 64 = words b 16 ++ List.replicate 48 0 := by
  apply List.ext_getElem?
  intro j
  by_cases h : j < 16
  · rw [List.getElem?_append_left (by simpa [words] using h)]
    simp [wcs, words, h, show j < 64 by omega, wc_late b j 64 (by omega), wc_four]
  · have hw : (words b 16).length = 16 := by simp [words]
    rw [List.getElem?_append_right (by omega), List.getElem?_replicate, hw]
    by_cases h2 : j < 64
    · rw [if_pos (by omega)]
      simp [wcs, h2, wc_early b j 64 (by omega)]
    · rw [if_neg (by omega)]
      simp [wcs, h2]
theorem length_wcs (b : ByteArray) (i : Nat) : (wcs b i).length = 64 := by simp [wcs]
theorem wcs_set (b : ByteArray) (i : Nat) (hi : i < 64) :
    (u32s (wcs b i)).set (i / 4) (.int .u32 (((wc b (i / 4) i * 256 % 4294967296) ||| (b[i]?.getD 0).toNat : Nat) : Int)) = u32s (wcs b (i + 1)) := by
  apply List.ext_getElem?
  intro j
  by_cases e : i / 4 = j
  · subst e
    have h64 : i / 4 < 64 := by omega
    simp [u32s, wcs, h64, wc]
  · rw [List.getElem?_set_ne e]
    by_cases h2 : j < 64
    · simp [u32s, wcs, h2, wc, Ne.symm e]
    · simp [u32s, wcs, h2]
theorem wcs_cell (b : ByteArray) (i j : Nat) (hj : j < 64) : (u32s (wcs b i))[j]? = some (.int .u32 (wc b j i : Nat)) := by simp [u32s, wcs, hj]

theorem fill_step {l : List Value} {m : Nat} {x z : Value} : (l ++ List.replicate (m + 1) z).set l.length x = (l ++ [x]) ++ List.replicate m z := by
  rw [List.replicate_succ, List.set_append_right _ _ (Nat.le_refl _)]
  simp

theorem word_bits (b : ByteArray) (k : Nat) (i0 : 4 * k < b.size) (i1 : 4 * k + 1 < b.size) (i2 : 4 * k + 2 < b.size) (i3 : 4 * k + 3 < b.size) :
    bits .or .u32 (bits .or .u32 (bits .or .u32 ((b[4 * k].toNat : Int) % 4294967296 * 16777216 % 4294967296) ((b[4 * k + 1].toNat : Int) % 4294967296 * 65536 % 4294967296)) ((b[4 * k + 2].toNat : Int) % 4294967296 * 256 % 4294967296)) ((b[4 * k + 3].toNat : Int) % 4294967296) = (word b k : Int) := by
  have h0 := byte_lt b[4 * k]
  have h1 := byte_lt b[4 * k + 1]
  have h2 := byte_lt b[4 * k + 2]
  have h3 := byte_lt b[4 * k + 3]
  have w0 : b[4 * k]?.getD 0 = b[4 * k] := by simp [i0]
  have w1 : b[4 * k + 1]?.getD 0 = b[4 * k + 1] := by simp [i1]
  have w2 : b[4 * k + 2]?.getD 0 = b[4 * k + 2] := by simp [i2]
  have w3 : b[4 * k + 3]?.getD 0 = b[4 * k + 3] := by simp [i3]
  unfold word
  rw [w0, w1, w2, w3]
  generalize b[4 * k].toNat = x0 at *
  generalize b[4 * k + 1].toNat = x1 at *
  generalize b[4 * k + 2].toNat = x2 at *
  generalize b[4 * k + 3].toNat = x3 at *
  have e0 : (x0 : Int) % 4294967296 * 16777216 % 4294967296 = ((x0 * 16777216 : Nat) : Int) := by omega
  have e1 : (x1 : Int) % 4294967296 * 65536 % 4294967296 = ((x1 * 65536 : Nat) : Int) := by omega
  have e2 : (x2 : Int) % 4294967296 * 256 % 4294967296 = ((x2 * 256 : Nat) : Int) := by omega
  have e3 : (x3 : Int) % 4294967296 = (x3 : Int) := by omega
  rw [e0, e1, e2, e3, or32 (by omega) (by omega), or32 (or_lt (by omega) (by omega)) (by omega), or32 (or_lt (or_lt (by omega) (by omega)) (by omega)) (by omega)]

theorem fill_word {wr : World} {g k : Nat} {b : ByteArray} {x : Int} {e : TypeId} (h : HasRow wr g (u32s (words b k) ++ List.replicate (64 - k) (.int .u32 0)) e) (hk : k < 16) (hx : x = (word b k : Int)) :
    HasRow (wr.setCell ⟨g, k, none⟩ (.int .u32 x)).drew g (u32s (words b (k + 1)) ++ List.replicate (64 - (k + 1)) (.int .u32 0)) e := by
  have hl : (u32s (words b k)).length = k := by simp [u32s, words]
  have h2 := row_set h k (.int .u32 x)
  rw [show 64 - k = (64 - (k + 1)) + 1 by omega] at h2
  have e : (u32s (words b k) ++ List.replicate (64 - (k + 1) + 1) (Value.int .u32 0)).set k (.int .u32 x) = u32s (words b (k + 1)) ++ List.replicate (64 - (k + 1)) (.int .u32 0) := by
    have := @fill_step (u32s (words b k)) (64 - (k + 1)) (.int .u32 x) (.int .u32 0)
    rw [hl] at this
    rw [this, hx]
    simp [u32s, words, List.range_succ]
  rw [e] at h2
  exact h2

/-- The first m numbers of a block, m at least 16. -/
def wAt (b : ByteArray) (m : Nat) : List Nat := wTo (m - 16) (words b 16)
/-- .. as they stand in a row of 64. -/
def wRow (b : ByteArray) (m : Nat) : List Value := u32s (wAt b m) ++ List.replicate (64 - m) (.int .u32 0)

theorem len_w (b : ByteArray) (m : Nat) (h : 16 ≤ m) : (wAt b m).length = m := by unfold wAt; rw [length_wTo]; simp [words]; omega
theorem wAt_end (b : ByteArray) : wAt b 64 = wsOf b := rfl
theorem wRow_start (b : ByteArray) : u32s (words b 16) ++ List.replicate 48 (.int .u32 0) = wRow b 16 := rfl
theorem wRow_end (b : ByteArray) : wRow b 64 = u32s (wsOf b) := by simp [wRow, wAt_end]
theorem wRow_wcs (b : ByteArray) : u32s (wcs b 64) = wRow b 16 := by rw [wcs_end, u32s_append, ← wRow_start]; simp [u32s]
theorem length_wsOf (b : ByteArray) : (wsOf b).length = 64 := len_w b 64 (by omega)

theorem word_lt (b : ByteArray) (i : Nat) : word b i < 4294967296 := by
  have h0 := byte_lt (b[4 * i]?.getD 0)
  have h1 := byte_lt (b[4 * i + 1]?.getD 0)
  have h2 := byte_lt (b[4 * i + 2]?.getD 0)
  have h3 := byte_lt (b[4 * i + 3]?.getD 0)
  exact or_lt (or_lt (or_lt (by omega) (by omega)) (by omega)) (by omega)

theorem wTo_lt (b : ByteArray) : ∀ n, ∀ x ∈ wTo n (words b 16), x < 4294967296
  | 0, x, hx => by
    simp only [wTo, words, List.mem_map] at hx
    obtain ⟨i, _, rfl⟩ := hx
    exact word_lt b i
  | n + 1, x, hx => by
    simp only [wTo, List.mem_append, List.mem_singleton] at hx
    rcases hx with hx | rfl
    · exact wTo_lt b n x hx
    · exact Nat.mod_lt _ (by omega)

theorem wAt_lt (b : ByteArray) (m j : Nat) : (wAt b m).getD j 0 < 4294967296 := by
  by_cases h : j < (wAt b m).length
  · have : (wAt b m).getD j 0 ∈ wAt b m := by simp [List.getD, h]
    exact wTo_lt b _ _ this
  · simp [List.getD, List.getElem?_eq_none (Nat.le_of_not_lt h)]

theorem w_cell {wr : World} {g m : Nat} {b : ByteArray} {e : TypeId} (h : HasRow wr g (wRow b m) e) (hm : 16 ≤ m) (j : Nat) (hj : j < m) :
    wr.cell? ⟨g, j, none⟩ = some (.int .u32 (((wAt b m).getD j 0 : Nat) : Int)) := by
  have hl := len_w b m hm
  unfold wRow at h
  rw [Mem.cell_of_row h j, List.getElem?_append_left (by simp [u32s, hl]; omega)]
  simp [u32s, List.getElem?_eq_getElem (show j < (wAt b m).length by omega)]

theorem z_cell {wr : World} {g m : Nat} {b : ByteArray} {e : TypeId} (h : HasRow wr g (wRow b m) e) (hm : 16 ≤ m) (hn : m < 64) :
    wr.cell? ⟨g, m, none⟩ = some (.int .u32 0) := by
  have hl := len_w b m hm
  have hl2 : (u32s (wAt b m)).length = m := by simp [u32s, hl]
  unfold wRow at h
  rw [Mem.cell_of_row h, List.getElem?_append_right (by omega), hl2, Nat.sub_self, show 64 - m = (63 - m) + 1 by omega, List.replicate_succ]
  rfl

theorem sum4 (a b c d : Nat) : ((((a : Int) + (b : Int)) % 4294967296 + (c : Int)) % 4294967296 + (d : Int)) % 4294967296 = (((a + b + c + d) % 4294967296 : Nat) : Int) := by omega

/-- What the number m is. -/
theorem next_is (b : ByteArray) (m : Nat) (hm : 16 ≤ m) : wNext (wAt b m) = ((wAt b m).getD (m - 16) 0 + sm0 ((wAt b m).getD (m - 15) 0) + (wAt b m).getD (m - 7) 0 + sm1 ((wAt b m).getD (m - 2) 0)) % 4294967296 := by
  unfold wNext
  rw [len_w b m hm]

theorem fill_next {wr : World} {g m : Nat} {b : ByteArray} {x : Int} {e : TypeId} (h : HasRow wr g (wRow b m) e) (hm : 16 ≤ m) (hn : m < 64) (hx : x = (wNext (wAt b m) : Int)) :
    HasRow (wr.setCell ⟨g, m, none⟩ (.int .u32 x)) g (wRow b (m + 1)) e := by
  have hl : (u32s (wAt b m)).length = m := by rw [length_u32s, len_w b m hm]
  have h2 := row_set h m (.int .u32 x)
  unfold wRow at h2
  rw [show 64 - m = (64 - (m + 1)) + 1 by omega] at h2
  have e : (u32s (wAt b m) ++ List.replicate (64 - (m + 1) + 1) (Value.int .u32 0)).set m (.int .u32 x) = wRow b (m + 1) := by
    have := @fill_step (u32s (wAt b m)) (64 - (m + 1)) (.int .u32 x) (.int .u32 0)
    rw [hl] at this
    rw [this, hx]
    have ew : wAt b (m + 1) = wAt b m ++ [wNext (wAt b m)] := by
      unfold wAt
      rw [show m + 1 - 16 = (m - 16) + 1 by omega]
      rfl
    unfold wRow
    rw [ew, u32s_append]
    rfl
  rw [e] at h2
  exact h2
end Go.Proofs.YtjgkekgieodhnabDoor.Sha
