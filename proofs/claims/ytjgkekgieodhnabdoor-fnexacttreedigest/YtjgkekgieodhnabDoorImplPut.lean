/- What the program's putHigh and padded answer. -/
import Derived.Test.YtjgkekgieodhnabDoorRows
import Derived.Test.YtjgkekgieodhnabDoorShaWords
import Derived.Test.YtjgkekgieodhnabDoorTextsA
import Derived.Test.YtjgkekgieodhnabDoorTextsB
namespace Go.Proofs.YtjgkekgieodhnabDoor.Sha
open Go.RowKit Go.Proofs.YtjgkekgieodhnabDoor.Mem

/-- A row into which a number's bytes are put from their end on: i of m have been. -/
def putRow (cur : List Value) (o m v i : Nat) : List Value := cur.take (o + (m - i)) ++ Lib.byteCells (low v i) ++ cur.drop (o + m)

theorem putRow_cell (cur : List Value) (o m v i : Nat) (hf : o + m ≤ cur.length) (hi : i < m) : (putRow cur o m v i)[o + (m - 1 - i)]? = cur[o + (m - 1 - i)]? := by
  unfold putRow
  rw [List.append_assoc, List.getElem?_append_left (by rw [List.length_take]; omega), List.getElem?_take]
  rw [if_pos (by omega)]
theorem putRow_set (cur : List Value) (o m v i : Nat) (hf : o + m ≤ cur.length) (hi : i < m) :
    (putRow cur o m v i).set (o + (m - 1 - i)) (.int .u8 ((UInt8.ofNat (v / 256 ^ i)).toNat : Nat)) = putRow cur o m v (i + 1) := by
  unfold putRow
  have e1 : cur.take (o + (m - i)) = cur.take (o + (m - 1 - i)) ++ [cur[o + (m - 1 - i)]'(by omega)] := by
    rw [show o + (m - i) = (o + (m - 1 - i)) + 1 by omega, List.take_succ_eq_append_getElem (by omega)]
  have el : (cur.take (o + (m - 1 - i))).length = o + (m - 1 - i) := by rw [List.length_take]; omega
  rw [e1, show m - (i + 1) = m - 1 - i by omega]
  simp only [List.append_assoc, List.singleton_append]
  rw [List.set_append_right _ _ (by omega), el, Nat.sub_self]
  simp [low, Lib.byteCells]
theorem putRow_start (cur : List Value) (o m v : Nat) : putRow cur o m v 0 = cur := by
  unfold putRow
  simp [low, Lib.byteCells]
theorem putRow_end (cur : List Value) (o m v : Nat) : putRow cur o m v m = cur.take o ++ Lib.byteCells (low v m) ++ cur.drop (o + m) := by
  unfold putRow
  simp
theorem byte_of (v i : Nat) : (v : Int) / 2 ^ (8 * i) % 256 = ((UInt8.ofNat (v / 256 ^ i)).toNat : Int) := by
  have e : (2 : Int) ^ (8 * i) = ((256 ^ i : Nat) : Int) := by rw [show (256 : Nat) = 2 ^ 8 by rfl, ← Nat.pow_mul]; simp
  rw [e]
  simp

theorem results_none {P : Program} {fn : Func} {tmps : Array Value} {w : World} (hf : fn.results = #[]) : (results fn tmps).run P w = .ok (.tuple #[]) w := by
  unfold results
  rw [hf]
  simp

set_option maxRecDepth 100000 in
set_option maxHeartbeats 1000000 in
theorem putHigh_any (g o m c v : Nat) (cur : List Value) (T : TypeId) (w : World) (hrow : HasRow w g cur T) (hm : m ≤ 8) (hf : o + m ≤ cur.length) (_hv : (v : Int) ≤ 18446744073709551615) (hcur : ∀ j, o ≤ j → j < o + m → ∃ x, cur[j]? = some (.int .u8 x)) :
    Calls Tryd.prog 46 #[.slice (some ⟨g, o, none⟩) m c, .int .u64 v] w fun e w' => e = .returned (.tuple #[]) ∧ HasRow w' g (cur.take o ++ Lib.byteCells (low v m) ++ cur.drop (o + m)) T ∧ (∀ k, k ≠ g → w'.heap[k]? = w.heap[k]?) ∧ w'.heap.size = w.heap.size ∧ (∀ B u, B ≤ g → Below B u w → Below B u w') := by
  have HROW : Hid (HasRow w g cur T) := hrow
  have HC : Hid _ := hcur
  clear hrow hcur
  go_enter Tryd.func46, Tryd.ntmps46
  go_wp2
  go_loopw [7] (fun i wr => ∃ k : Nat, k ≤ m ∧ i = .int .i64 k ∧ HasRow wr g (putRow cur o m v k) T ∧ (∀ k, k ≠ g → wr.heap[k]? = w.heap[k]?) ∧ wr.heap.size = w.heap.size ∧ (∀ B u, B ≤ g → Below B u w → Below B u wr)) (fun i _ => m - (intOf i).toNat)
  case atStart => exact ⟨0, by omega, rfl, by rw [putRow_start]; exact HROW.out, fun _ _ => rfl, rfl, fun _ _ _ h => h⟩
  case round =>
    obtain ⟨k, hk, rfl, hrow, hoth, hsz, hbb⟩ := hrel
    by_cases hlt : k < m
    · have hc := Mem.cell_of_row hrow (o + (m - 1 - k))
      rw [putRow_cell cur o m v k hf hlt] at hc
      obtain ⟨x, hx⟩ := HC.out (o + (m - 1 - k)) (by omega) (by omega)
      rw [hx] at hc
      have hfz := Mem.frozen_of_row hrow (o + (m - 1 - k))
      have q1 : ((m : Int) - 1 - (k : Int)).toNat = m - 1 - k := by omega
      have p1 : (0 : Int) ≤ (m : Int) - 1 - (k : Int) := by omega
      have p2 : (m : Int) - 1 - (k : Int) < (m : Int) := by omega
      have q2 : (8 * (k : Int)).toNat = 8 * k := by omega
      have HS : Hid (HasRow (wr.setCell ⟨g, o + (m - 1 - k), none⟩ (.int .u8 ((v : Int) / 2 ^ (8 * k) % 256))) g (putRow cur o m v (k + 1)) T) := by
        unfold Hid
        rw [byte_of, ← putRow_set cur o m v k hf hlt]
        exact row_set hrow _ _
      have HO : Hid (∀ j, j ≠ g → (wr.setCell ⟨g, o + (m - 1 - k), none⟩ (.int .u8 ((v : Int) / 2 ^ (8 * k) % 256))).heap[j]? = w.heap[j]?) := fun j hj => by
        rw [Below.heap_setCell wr _ _ j hj]; exact hoth j hj
      have HBB : Hid (∀ B u, B ≤ g → Below B u w → Below B u wr) := hbb
      clear hrow hoth hbb hx
      go_wp2
      go_roundw
      case rel => exact ⟨k + 1, by omega, by go_num, HS.out, HO.out, by simpa using hsz, fun B u h1 h2 => (HBB.out B u h1 h2).setCell (p := ⟨g, o + (m - 1 - k), none⟩) h1 _⟩
      case measure => simp [intOf]; omega
    · have e : k = m := by omega
      subst e
      rw [putRow_end] at hrow
      have HR : Hid _ := hrow
      have HO : Hid _ := hoth
      have HBB : Hid (∀ B u, B ≤ g → Below B u w → Below B u wr) := hbb
      clear hrow hoth hbb
      go_wp2
      exact bodyPost_end (v := .tuple #[]) (results_none Tryd.results46) rfl ⟨rfl, HR.out, HO.out, hsz, HBB.out⟩

/-- How many blocks a text takes. -/
def blocksOf (s : ByteArray) : Nat := (s.size + 72) / 64
theorem size_le_blocks (s : ByteArray) : s.size + 9 ≤ blocksOf s * 64 := by unfold blocksOf; omega

theorem byteCells_append (a b : List UInt8) : Lib.byteCells (a ++ b) = Lib.byteCells a ++ Lib.byteCells b := by simp [Lib.byteCells]
theorem byteCells_zeros (n : Nat) : List.replicate n (Value.int .u8 0) = Lib.byteCells (List.replicate n 0) := by simp [Lib.byteCells]

/-- The padding, as the program lays it. -/
theorem pad_row (s : ByteArray) :
    (((Lib.byteCells s.data.toList ++ List.replicate (blocksOf s * 64 - s.size) (Value.int .u8 0)).set s.size (.int .u8 128)).take (blocksOf s * 64 - 8) ++ Lib.byteCells (low (8 * s.size) 8) ++ ((Lib.byteCells s.data.toList ++ List.replicate (blocksOf s * 64 - s.size) (Value.int .u8 0)).set s.size (.int .u8 128)).drop (blocksOf s * 64 - 8 + 8)) = Lib.byteCells (padL s) := by
  have hb := size_le_blocks s
  have hl : (Lib.byteCells s.data.toList).length = s.size := by simp [Lib.byteCells]
  obtain ⟨m, hm⟩ : ∃ m, blocksOf s * 64 - s.size = m + 1 := ⟨blocksOf s * 64 - s.size - 1, by omega⟩
  have e1 : (Lib.byteCells s.data.toList ++ List.replicate (blocksOf s * 64 - s.size) (Value.int .u8 0)).set s.size (.int .u8 128) = Lib.byteCells s.data.toList ++ .int .u8 128 :: List.replicate m (.int .u8 0) := by
    rw [hm, List.replicate_succ, List.set_append_right _ _ (by omega), hl, Nat.sub_self]
    rfl
  rw [e1]
  have e2 : (Lib.byteCells s.data.toList ++ Value.int .u8 128 :: List.replicate m (.int .u8 0)).drop (blocksOf s * 64 - 8 + 8) = [] := by
    apply List.drop_eq_nil_of_le
    simp [hl]; omega
  have e3 : (Lib.byteCells s.data.toList ++ Value.int .u8 128 :: List.replicate m (.int .u8 0)).take (blocksOf s * 64 - 8) = Lib.byteCells s.data.toList ++ .int .u8 128 :: List.replicate (m - 8) (.int .u8 0) := by
    rw [List.take_append, hl, List.take_of_length_le (by omega), show blocksOf s * 64 - 8 - s.size = (m - 8) + 1 by omega, List.take_succ_cons, List.take_replicate, show min (m - 8) m = m - 8 by omega]
  rw [e2, e3, List.append_nil]
  unfold padL
  rw [byteCells_append, byteCells_append, byteCells_append, ← byteCells_zeros]
  have ez : m - 8 = (119 - s.size % 64) % 64 := by unfold blocksOf at *; omega
  rw [ez]
  simp [Lib.byteCells]

set_option maxRecDepth 100000 in
set_option maxHeartbeats 1000000 in
theorem padded_any (s : ByteArray) (w : World) (hs : s.size ≤ 100000) :
    Calls Tryd.prog 43 #[.string s] w fun e w' => e = .returned (.slice (some ⟨w.heap.size, 0, none⟩) (blocksOf s * 64) (blocksOf s * 64)) ∧ HasRow w' w.heap.size (Lib.byteCells (padL s)) 5 ∧ Below w.heap.size w w' ∧ w'.heap.size = w.heap.size + 1 := by
  have hb := size_le_blocks s
  have hb2 : blocksOf s * 64 ≤ 200000 := by unfold blocksOf; omega
  obtain ⟨W1, hmk, hg1, hb1, hz1⟩ := make_bytes (P := Tryd.prog) 44 5 Join.under Join.info8 (blocksOf s * 64) (by omega) w
  obtain ⟨W2, hc2, hg2, hb2', hz2⟩ := copy_str (P := Tryd.prog) 44 9 3 5 Join.under Join.info8 W1 w.heap.size 0 (blocksOf s * 64) (blocksOf s * 64) s _ hg1 (by omega) (by simp; omega)
  have er : List.take 0 (List.replicate (blocksOf s * 64) (Value.int .u8 0)) ++ Lib.byteCells s.data.toList ++ List.drop (0 + s.size) (List.replicate (blocksOf s * 64) (Value.int .u8 0)) = Lib.byteCells s.data.toList ++ List.replicate (blocksOf s * 64 - s.size) (.int .u8 0) := by simp
  rw [er] at hg2
  have hcell := Mem.cell_of_row hg2 s.size
  have hl : (Lib.byteCells s.data.toList).length = s.size := by simp [Lib.byteCells]
  rw [List.getElem?_append_right (by omega), hl, Nat.sub_self, List.getElem?_replicate, if_pos (by omega)] at hcell
  have hfz := Mem.frozen_of_row hg2 s.size
  have hg3 := row_set hg2 s.size (.int .u8 128)
  have HP : Hid (∀ W, HasRow W w.heap.size ((Lib.byteCells s.data.toList ++ List.replicate (blocksOf s * 64 - s.size) (Value.int .u8 0)).set s.size (.int .u8 128)) 5 →
      Calls Tryd.prog 46 #[.slice (some ⟨w.heap.size, blocksOf s * 64 - 8, none⟩) 8 8, .int .u64 ((8 * s.size : Nat) : Int)] W fun e w' => e = .returned (.tuple #[]) ∧ HasRow w' w.heap.size (Lib.byteCells (padL s)) 5 ∧ w'.heap.size = W.heap.size ∧ (∀ B u, B ≤ w.heap.size → Below B u W → Below B u w')) := fun W hW =>
    (putHigh_any w.heap.size (blocksOf s * 64 - 8) 8 8 (8 * s.size) _ 5 W hW (by omega) (by simp [hl]; omega) (by omega) (fun j h1 h2 => by
      rw [List.getElem?_set_ne (by omega), List.getElem?_append_right (by omega), List.getElem?_replicate, if_pos (by omega)]
      exact ⟨0, rfl⟩)).mono fun e w' h => ⟨h.1, by have := h.2.1; rw [pad_row] at this; exact this, h.2.2.2.1, h.2.2.2.2⟩
  have HB : Hid (Below w.heap.size w W2) := hb1.trans hb2'
  have HG3 : Hid _ := hg3
  have hL : ((s.size : Int) + 1 + 8 + 64 - 1) / 64 * 64 = ((blocksOf s * 64 : Nat) : Int) := by unfold blocksOf; omega
  have hv : ((8 * s.size : Nat) : Int) = (s.size : Int) * 8 := by omega
  rw [hv] at HP
  clear hv
  generalize blocksOf s * 64 = L at *
  have p8 : (0 : Int) ≤ (L : Int) - 8 := by omega
  have p9 : (L : Int) - 8 ≤ (L : Int) := by omega
  have q8 : ((L : Int) - 8).toNat = L - 8 := by omega
  have h88 : L - (L - 8) = 8 := by omega
  clear hg1 hg2 hg3 hb1 hb2' er hl
  go_enter Tryd.func43, Tryd.ntmps43
  go_wp2_with (go_at_call 46; refine (HP.out _ HG3.out).mono ?_; rintro e w' ⟨rfl, hr, hz, hbb⟩)
  go_ret
  exact ⟨rfl, hr, hbb _ _ (Nat.le_refl _) (HB.out.setCell (p := ⟨w.heap.size, s.size, none⟩) (Nat.le_refl _) _), by rw [hz]; simp; omega⟩
end Go.Proofs.YtjgkekgieodhnabDoor.Sha
