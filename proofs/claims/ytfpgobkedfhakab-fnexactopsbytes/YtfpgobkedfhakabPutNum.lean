/- What the two PutNum functions answer, by contracts. -/
import Derived.Test.YtfpgobkedfhakabRows
import Derived.Test.YtfpgobkedfhakabTextsA
import Derived.Test.YtfpgobkedfhakabTextsB
namespace Go.Proofs.Ytfpgobkedfhakab.PutNum
open Go.RowKit Go.Proofs.Ytfpgobkedfhakab.Mem

theorem ret_int {k : IntKind} {a b : Int} (h : a = b) : Ending.returned (.int k a) = .returned (.int k b) := by rw [h]
theorem val_int {k : IntKind} {a b : Int} (h : a = b) : Value.int k a = .int k b := by rw [h]
theorem ret_str {a b : ByteArray} (h : a = b) : Ending.returned (.string a) = .returned (.string b) := by rw [h]

/-- The bytes of a number, as a text. -/
def numB (n : Int) : ByteArray := ⟨(numL n).toArray⟩

theorem l01Fold_any (n : Int) (w : World) (h1 : -9223372036854775808 ≤ n) (h2 : n ≤ 9223372036854775807) :
    Calls Try.prog 31 #[.int .i64 n] w fun e w' => e = .returned (.int .u64 (foldN n)) ∧ w = w' := by
  by_cases h : n < 0
  · go_enter Try.func31, Try.ntmps31
    go_wp2
    go_ret
    exact ⟨ret_int (fold_neg h).symm, rfl⟩
  · go_enter Try.func31, Try.ntmps31
    go_wp2
    go_ret
    exact ⟨ret_int (fold_pos (by omega)).symm, rfl⟩

theorem fold_any (n : Int) (w : World) (h1 : -9223372036854775808 ≤ n) (h2 : n ≤ 9223372036854775807) :
    Calls Try.prog 24 #[.int .i64 n] w fun e w' => e = .returned (.int .u64 (foldN n)) ∧ w = w' := by
  by_cases h : n < 0
  · have HB : Hid (bits .xor .u64 IntKind.u64.max (IntKind.u64.wrap (IntKind.u64.wrap n * 2)) = (foldN n : Int)) := fold_bits h1 h
    go_enter Try.func24, Try.ntmps24
    go_wp2
    go_ret
    exact ⟨ret_int HB.out, rfl⟩
  · go_enter Try.func24, Try.ntmps24
    go_wp2
    go_ret
    exact ⟨ret_int (by rw [fold_pos (by omega)]; omega), rfl⟩

theorem rel_spec {w wr : World} {n : Int} {f x : Nat} {l : List UInt8} (hi : Inv (foldN n) f x l) (hx : x < 128) {v' : Value} {v : Value} {w1 : World} {o : Obj} (hown : OwnsB wr w.heap.size 5 v l) (hbel : Below w.heap.size w wr)
    (h1 : w1.ownsRow w.heap.size 5 1 v' (l.length + 1) (Lib.byteCells l ++ [.int .u8 (x : Int)])) (hg : (wr.alloc o).grownBy w1 v.ownBlock) :
    (convert 52 9 v').run Try.prog w1 = .ok (.string (numB n)) w1 ∧ Below w.heap.size w w1 := by
  obtain ⟨a, b⟩ := own_step hown hbel hbel.size (toNat_last hx).symm h1 hg
  have e := inv_end hi hx
  refine ⟨?_, b⟩
  rw [own_text _ _ _ Join.under Join.under8 Join.underS (by simp) a, e]
  rfl

set_option maxRecDepth 100000 in
set_option maxHeartbeats 1000000 in
theorem specPutNum_any (n : Int) (w : World) (h1 : -9223372036854775808 ≤ n) (h2 : n ≤ 9223372036854775807) :
    Calls Try.prog 20 #[.int .i64 n] w fun e w' => e = .returned (.string (numB n)) ∧ Below w.heap.size w w' := by
  have hf := foldN_lt n h1 h2
  have HI : Hid (Inv (foldN n) 9 (foldN n) []) := inv_start hf
  have hf' : (foldN n : Int) ≤ 18446744073709551615 := by omega
  clear hf
  obtain ⟨i0, hi, hz0, hz1, hz2⟩ := info_parts Join.info8
  have HF : Hid (∀ w, Calls Try.prog 31 #[.int .i64 n] w fun e w' => e = .returned (.int .u64 (foldN n)) ∧ w = w') := fun w => l01Fold_any n w h1 h2
  clear h1 h2
  go_enter Try.func20, Try.ntmps20
  go_wp2_with (first | (go_at_call 31; refine (HF.out _).mono ?_; rintro e w' ⟨rfl, rfl⟩) )
  go_loopw [3, 4] (fun u b wr => ∃ (f x : Nat) (l : List UInt8), u = .int .u64 x ∧ (x : Int) ≤ 18446744073709551615 ∧ Hid (Inv (foldN n) f x l) ∧ OwnsB wr w.heap.size 5 b l ∧ Below w.heap.size w wr) (fun u b wr => (intOf u).toNat)
  case atStart => exact ⟨9, foldN n, [], rfl, hf', HI, own_empty _ _ _ (Nat.le_refl _), (Below.refl _ _).alloc (Nat.le_refl _) _⟩
  case round =>
    obtain ⟨f, x, l, rfl, hx, HV, hown, hbel⟩ := hrel
    have hle := inv_le HV.out
    have hsz := hbel.size
    by_cases hlt : 128 ≤ x
    · go_wp2_with (at_builtin; refine wpList_append_own _ rfl _ _ 52 rfl w.heap.size 5 i0 (.int .u8 0) 1 1 Join.under hi hz0 hz1 hz2 rfl (by decide) _ _ _ rfl (World.ownsRow.alloc hown _) ⟨wr.heap.size, 0, none⟩ 1 1 [.int .u8 ((x : Int) % 128 + 128)] rfl rfl ?c1 ?c2 ?c3 ?c4 ?c5 ?_)
      case c1 =>
        intro j u hj
        match j, hj with
        | 0, hj => simp at hj; subst hj; simp [Addr.add]
      case c2 => intro u hu; simp at hu; subst hu; rfl
      case c3 => unfold maxLen; omega
      case c4 => omega
      case c5 => simp; omega
      · intro v' w1 hown' hgrow _
        have R := own_step hown hbel hbel.size (toNat_cont x).symm hown' hgrow
        obtain ⟨g, rfl, HV'⟩ := inv_step HV.out hlt
        have HV2 : Hid (Inv (foldN n) g (x / 128) (l ++ [UInt8.ofNat (x % 128 + 128)])) := HV'
        clear hown' hgrow hown HV' HV
        go_wp2
        go_roundw
        case rel => exact ⟨g, x / 128, _, by go_num, by omega, HV2, R.1, R.2⟩
        case measure => simp [intOf]; omega
    · have hx2 : x < 128 := by omega
      go_wp2_with (at_builtin; refine wpList_append_own _ rfl _ _ 52 rfl w.heap.size 5 i0 (.int .u8 0) 1 1 Join.under hi hz0 hz1 hz2 rfl (by decide) _ _ _ rfl (World.ownsRow.alloc hown _) ⟨wr.heap.size, 0, none⟩ 1 1 [.int .u8 (x : Int)] rfl rfl ?c1 ?c2 ?c3 ?c4 ?c5 ?_)
      case c1 =>
        intro j u hj
        match j, hj with
        | 0, hj => simp at hj; subst hj; simp [Addr.add]
      case c2 => intro u hu; simp at hu; subst hu; rfl
      case c3 => unfold maxLen; omega
      case c4 => omega
      case c5 => simp; omega
      · intro v' w1 hown' hgrow _
        obtain ⟨hcv, hB1⟩ := rel_spec HV.out hx2 hown hbel hown' hgrow
        clear hown' hgrow hown HV
        go_wp2
        go_ret
        exact ⟨rfl, hB1⟩

/-- The program's ten bytes: those of l, and zeros behind them. -/
def TenRow (W : World) (g : Nat) (l : List UInt8) : Prop := HasRow W g (Lib.byteCells l ++ List.replicate (10 - l.length) (.int .u8 0)) 48

theorem ten_start (w : World) : TenRow (w.alloc (.cells #[.int .u8 0, .int .u8 0, .int .u8 0, .int .u8 0, .int .u8 0, .int .u8 0, .int .u8 0, .int .u8 0, .int .u8 0, .int .u8 0] 48)) w.heap.size [] := by
  unfold TenRow HasRow
  show (w.heap.push _)[w.heap.size]? = _
  simp [Lib.byteCells, List.replicate]

theorem ten_cell {W : World} {g : Nat} {l : List UInt8} (h : TenRow W g l) (hl : l.length ≤ 9) : W.cell? ⟨g, l.length, none⟩ = some (.int .u8 0) ∧ W.frozen? ⟨g, l.length, none⟩ = false := by
  refine ⟨?_, Mem.frozen_of_row h _⟩
  rw [Mem.cell_of_row h, List.getElem?_append_right (by simp [Lib.byteCells])]
  have hd : 0 < 10 - l.length := by omega
  simp [Lib.byteCells, hd]

theorem ten_step {W : World} {g : Nat} {l : List UInt8} (h : TenRow W g l) (hl : l.length ≤ 9) {n : Int} {b : UInt8} (hn : n = (b.toNat : Int)) : TenRow (W.setCell ⟨g, l.length, none⟩ (.int .u8 n)) g (l ++ [b]) := by
  have := row_set h l.length (.int .u8 n)
  unfold TenRow
  subst hn
  have e : (Lib.byteCells l ++ List.replicate (10 - l.length) (Value.int .u8 0)).set l.length (.int .u8 (b.toNat : Int)) = Lib.byteCells (l ++ [b]) ++ List.replicate (10 - (l ++ [b]).length) (.int .u8 0) := by
    obtain ⟨m, hm⟩ : ∃ m, 10 - l.length = m + 1 := ⟨9 - l.length, by omega⟩
    have hm2 : 10 - (l ++ [b]).length = m := by simp; omega
    rw [hm, hm2, List.replicate_succ, List.set_append_right _ _ (by simp [Lib.byteCells])]
    simp [Lib.byteCells]
  rwa [e] at this

theorem ten_text {W : World} {g : Nat} {l : List UInt8} (h : TenRow W g l) (cap : Nat) : (convert 52 9 (.slice (some ⟨g, 0, none⟩) l.length cap)).run Try.prog W = .ok (.string ⟨l.toArray⟩) W :=
  text_of_row _ _ _ Join.under Join.under8 Join.underS W g cap l.length l _ rfl h

theorem mask127 (x : Nat) (h : (x : Int) ≤ 18446744073709551615) : bits .and .u64 (x : Int) 127 = (x : Int) % 128 := by
  have h1 := u64_and_nat x 127 (by omega) (by decide)
  have h2 : x &&& 127 = x % 128 := Nat.and_two_pow_sub_one_eq_mod x 7
  rw [h2] at h1
  simpa using h1

theorem ten_final {w wr : World} {n : Int} {f x : Nat} {l : List UInt8} (hi : Inv (foldN n) f x l) (hx : x < 128) (h : TenRow wr w.heap.size l) : 
    (convert 52 9 (.slice (some ⟨w.heap.size, 0, none⟩) (l.length + 1) 10)).run Try.prog (wr.setCell ⟨w.heap.size, l.length, none⟩ (.int .u8 (x : Int))) = .ok (.string (numB n)) (wr.setCell ⟨w.heap.size, l.length, none⟩ (.int .u8 (x : Int))) := by
  have h2 := ten_step h (inv_le hi) (toNat_last hx).symm
  have h3 := ten_text h2 10
  rw [inv_end hi hx] at h3
  have h4 := congrArg List.length (inv_end hi hx)
  simp at h4
  rw [← h4] at h3
  exact h3

set_option maxRecDepth 100000 in
set_option maxHeartbeats 1000000 in
theorem implPutNum_any (n : Int) (w : World) (h1 : -9223372036854775808 ≤ n) (h2 : n ≤ 9223372036854775807) :
    Calls Try.prog 14 #[.int .i64 n] w fun e w' => e = .returned (.string (numB n)) ∧ Below w.heap.size w w' := by
  have hf := foldN_lt n h1 h2
  have HI : Hid (Inv (foldN n) 9 (foldN n) []) := inv_start hf
  have hf' : (foldN n : Int) ≤ 18446744073709551615 := by omega
  clear hf
  have HF : Hid (∀ w, Calls Try.prog 24 #[.int .i64 n] w fun e w' => e = .returned (.int .u64 (foldN n)) ∧ w = w') := fun w => fold_any n w h1 h2
  clear h1 h2
  have HT := ten_start w
  have HT2 : Hid _ := HT
  clear HT
  go_enter Try.func14, Try.ntmps14
  go_wp2_with (first | (go_at_call 24; refine (HF.out _).mono ?_; rintro e w' ⟨rfl, rfl⟩) )
  go_loopw [4, 5] (fun i u wr => ∃ (f x : Nat) (l : List UInt8), u = .int .u64 x ∧ i = .int .i64 (l.length : Nat) ∧ (x : Int) ≤ 18446744073709551615 ∧ Hid (Inv (foldN n) f x l) ∧ TenRow wr w.heap.size l ∧ Below w.heap.size w wr) (fun i u wr => (intOf u).toNat)
  case atStart => exact ⟨9, foldN n, [], rfl, rfl, hf', HI, HT2.out, (Below.refl _ _).alloc (Nat.le_refl _) _⟩
  case round =>
    obtain ⟨f, x, l, rfl, rfl, hx, HV, hrow, hbel⟩ := hrel
    have hle := inv_le HV.out
    obtain ⟨hcell, hfz⟩ := ten_cell hrow hle
    by_cases hlt : 128 ≤ x
    · have R := ten_step hrow hle (toNat_cont x).symm
      have hm := mask127 x hx
      obtain ⟨g, rfl, HV'⟩ := inv_step HV.out hlt
      have HV2 : Hid (Inv (foldN n) g (x / 128) (l ++ [UInt8.ofNat (x % 128 + 128)])) := HV'
      have HR : Hid (TenRow (wr.setCell ⟨w.heap.size, l.length, none⟩ (.int .u8 ((x : Int) % 128 + 128))) w.heap.size (l ++ [UInt8.ofNat (x % 128 + 128)])) := R
      clear R HV' HV hrow
      go_wp2
      go_roundw
      case rel => exact ⟨g, x / 128, _, by go_num, by simp, by omega, HV2, HR.out, hbel.setCell (Nat.le_refl _) _⟩
      case measure => simp [intOf]; omega
    · have hx2 : x < 128 := by omega
      have hcv := ten_final HV.out hx2 hrow
      have hle1 : (l.length : Int) + 1 ≤ 10 := by omega
      have hle0 : (0 : Int) ≤ (l.length : Int) + 1 := by omega
      clear HV hrow
      go_wp2
      go_ret
      exact ⟨rfl, hbel.setCell (Nat.le_refl _) _⟩
end Go.Proofs.Ytfpgobkedfhakab.PutNum
