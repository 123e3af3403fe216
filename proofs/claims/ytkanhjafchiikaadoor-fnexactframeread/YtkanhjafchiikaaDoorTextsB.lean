/- Laws that the proof rests on, put together: What the program's join answers: the two texts in one, in new memory. What the laws' markText answers. What the two PutNum functions answer, by contracts. What the two PutText functions answer, by contracts. What the two functions answer that lay a sum down in four bytes. -/
import Derived.Test.YtkanhjafchiikaaDoorRows
import Derived.Test.YtkanhjafchiikaaDoorTextsA
/- What the program's join answers: the two texts in one, in new memory. -/
namespace Go.Proofs.YtkanhjafchiikaaDoor.Join
open Go.RowKit Go.Proofs.YtkanhjafchiikaaDoor.Mem
theorem info8 : (Tryd.prog.info? 5).map (fun i => (i.zero, i.size, i.bytes)) = some (some (.int .u8 0), 1, 1) := by kernel_rfl
theorem under : Tryd.prog.underlying 59 = some (.slice 5) := by kernel_rfl
theorem underS : Tryd.prog.underlying 9 = some .string := by kernel_rfl
theorem under8 : Tryd.prog.underlying 5 = some (.int .u8) := by kernel_rfl

set_option maxHeartbeats 400000 in
theorem join_any (a b : ByteArray) (w : World) (ha : a.size ≤ 10000000) (hb : b.size ≤ 10000000) :
    Calls Tryd.prog 22 #[.string a, .string b] w fun e w' => e = .returned (.string (a ++ b)) ∧ Below w.heap.size w w' := by
  obtain ⟨W1, hmk, hg1, hb1, hz1⟩ := make_bytes (P := Tryd.prog) 59 5 under info8 (a.size + b.size) (by omega) w
  obtain ⟨W2, hc2, hg2, hb2, hz2⟩ := copy_str (P := Tryd.prog) 59 9 3 5 under info8 W1 w.heap.size 0 (a.size + b.size) (a.size + b.size) a _ hg1 (by omega) (by simp)
  have hla : (Lib.byteCells a.data.toList).length = a.size := by simp [Lib.byteCells]
  have hlb : (Lib.byteCells b.data.toList).length = b.size := by simp [Lib.byteCells]
  by_cases hbe : b.size = 0
  · obtain rfl : b = ByteArray.empty := by
      apply ByteArray.ext; apply Array.ext' ; exact List.eq_nil_of_length_eq_zero hbe
    have hce := copy_empty (P := Tryd.prog) 59 9 3 5 under info8
    have hcv := text_of_row (P := Tryd.prog) 59 9 5 under under8 underS W2 w.heap.size a.size a.size a.data.toList [] (bytes_data a) (by simpa using hg2)
    have hE : Hid ((⟨a.data.toList.toArray⟩ : ByteArray) = a ++ ByteArray.empty) := by show _ = _; rw [← append_eq]; simp
    have HB : Hid (Below w.heap.size w W2) := hb1.trans hb2
    simp at hmk hc2
    clear hg1 hg2 hb1 hb2 hla hlb hbe
    go_enter Tryd.func22, Tryd.ntmps22
    go_wp2
    go_ret
    exact ⟨by simp, HB.out⟩
  · obtain ⟨W3, hc3, hg3, hb3, hz3⟩ := copy_str (P := Tryd.prog) 59 9 3 5 under info8 W2 w.heap.size a.size b.size b.size b _ hg2 (by omega) (by simp [hla])
    have hcv := text_of_row (P := Tryd.prog) 59 9 5 under under8 underS W3 w.heap.size (a.size + b.size) (a.size + b.size) (a.data.toList ++ b.data.toList) [] (by simp) (by
      have e : List.take a.size (List.take 0 (List.replicate (a.size + b.size) (Value.int .u8 0)) ++ Lib.byteCells a.data.toList ++ List.drop (0 + a.size) (List.replicate (a.size + b.size) (Value.int .u8 0))) = Lib.byteCells a.data.toList := by
        simp [hla]
      rw [e] at hg3
      have e2 : List.drop (a.size + b.size) (List.map (fun b : UInt8 => Value.int IntKind.u8 (b.toNat : Int)) a.data.toList) = [] := List.drop_eq_nil_of_le (by simp)
      simpa [List.drop_append, hla, Lib.byteCells, e2] using hg3)
    have HE : Hid ((⟨(a.data.toList ++ b.data.toList).toArray⟩ : ByteArray) = a ++ b) := append_eq a b
    have HB : Hid (Below w.heap.size w W3) := (hb1.trans hb2).trans hb3
    generalize (⟨(a.data.toList ++ b.data.toList).toArray⟩ : ByteArray) = ab at *
    simp only [Int.natCast_add] at hmk
    clear hg1 hg2 hb1 hb2 hla hlb hg3 hb3
    have hbn : ¬ b = ByteArray.empty := by rintro rfl; exact hbe rfl
    go_enter Tryd.func22, Tryd.ntmps22
    go_wp2
    go_ret
    have he := HE.out
    subst he
    exact ⟨rfl, HB.out⟩
end Go.Proofs.YtkanhjafchiikaaDoor.Join

/- What the laws' markText answers. -/
namespace Go.Proofs.YtkanhjafchiikaaDoor.Mark
open Go.RowKit Go.Proofs.YtkanhjafchiikaaDoor.Mem

theorem under : Tryd.prog.underlying 59 = some (.slice 5) := by kernel_rfl
theorem underS : Tryd.prog.underlying 9 = some .string := by kernel_rfl
theorem under8 : Tryd.prog.underlying 5 = some (.int .u8) := by kernel_rfl

theorem digit_text (W : World) (x : Nat) : (convert 59 9 (.slice (some ⟨W.heap.size, 0, none⟩) 1 1)).run Tryd.prog (W.alloc (.cells #[.int .u8 (48 + (x : Int) % 10)] 5)) = .ok (.string ⟨#[UInt8.ofNat (48 + x % 10)]⟩) (W.alloc (.cells #[.int .u8 (48 + (x : Int) % 10)] 5)) := by
  have h := text_of_row (P := Tryd.prog) 59 9 5 under under8 underS (W.alloc (.cells #[.int .u8 (48 + (x : Int) % 10)] 5)) W.heap.size 1 1 [UInt8.ofNat (48 + x % 10)] [] rfl (T := 5) (by
    show (W.heap.push _)[W.heap.size]? = _
    have e : (UInt8.ofNat (48 + x % 10)).toNat = 48 + x % 10 := by rw [UInt8.toNat_ofNat']; omega
    simp [Lib.byteCells]
    omega)
  exact h

theorem cons_text (c : UInt8) (acc : List UInt8) : (⟨#[c]⟩ : ByteArray) ++ (⟨acc.toArray⟩ : ByteArray) = ⟨(c :: acc).toArray⟩ := by
  apply ByteArray.ext
  simp

theorem digs_len : ∀ (n k : Nat) (acc : List UInt8), k < 10 ^ n → (digs k acc).length ≤ acc.length + n
  | 0, k, acc, h => by
    obtain rfl : k = 0 := by simpa using h
    rw [digs_zero]; omega
  | n + 1, k, acc, h => by
    by_cases hk : k = 0
    · subst hk; rw [digs_zero]; omega
    · rw [digs_pos (by omega)]
      have := digs_len n (k / 10) (UInt8.ofNat (48 + k % 10) :: acc) (by rw [Nat.pow_succ] at h; omega)
      rw [List.length_cons] at this
      omega
theorem acc_len : ∀ (n k : Nat) (acc : List UInt8), k ≤ n → acc.length ≤ (digs k acc).length
  | 0, k, acc, h => by
    obtain rfl : k = 0 := by omega
    rw [digs_zero]; omega
  | n + 1, k, acc, h => by
    by_cases hk : k = 0
    · subst hk; rw [digs_zero]; omega
    · rw [digs_pos (by omega)]
      have := acc_len n (k / 10) (UInt8.ofNat (48 + k % 10) :: acc) (by omega)
      rw [List.length_cons] at this
      omega

end Go.Proofs.YtkanhjafchiikaaDoor.Mark

/- What the two PutNum functions answer, by contracts. -/
namespace Go.Proofs.YtkanhjafchiikaaDoor.PutNum
open Go.RowKit Go.Proofs.YtkanhjafchiikaaDoor.Mem

theorem ret_int {k : IntKind} {a b : Int} (h : a = b) : Ending.returned (.int k a) = .returned (.int k b) := by rw [h]
theorem val_int {k : IntKind} {a b : Int} (h : a = b) : Value.int k a = .int k b := by rw [h]
theorem ret_str {a b : ByteArray} (h : a = b) : Ending.returned (.string a) = .returned (.string b) := by rw [h]

/-- The bytes of a number, as a text. -/
def numB (n : Int) : ByteArray := ⟨(numL n).toArray⟩

theorem l01Fold_any (n : Int) (w : World) (h1 : -9223372036854775808 ≤ n) (h2 : n ≤ 9223372036854775807) :
    Calls Tryd.prog 46 #[.int .i64 n] w fun e w' => e = .returned (.int .u64 (foldN n)) ∧ w = w' := by
  by_cases h : n < 0
  · go_enter Tryd.func46, Tryd.ntmps46
    go_wp2
    go_ret
    exact ⟨ret_int (fold_neg h).symm, rfl⟩
  · go_enter Tryd.func46, Tryd.ntmps46
    go_wp2
    go_ret
    exact ⟨ret_int (fold_pos (by omega)).symm, rfl⟩

theorem fold_any (n : Int) (w : World) (h1 : -9223372036854775808 ≤ n) (h2 : n ≤ 9223372036854775807) :
    Calls Tryd.prog 45 #[.int .i64 n] w fun e w' => e = .returned (.int .u64 (foldN n)) ∧ w = w' := by
  by_cases h : n < 0
  · have HB : Hid (bits .xor .u64 IntKind.u64.max (IntKind.u64.wrap (IntKind.u64.wrap n * 2)) = (foldN n : Int)) := fold_bits h1 h
    go_enter Tryd.func45, Tryd.ntmps45
    go_wp2
    go_ret
    exact ⟨ret_int HB.out, rfl⟩
  · go_enter Tryd.func45, Tryd.ntmps45
    go_wp2
    go_ret
    exact ⟨ret_int (by rw [fold_pos (by omega)]; omega), rfl⟩

theorem rel_spec {w wr : World} {n : Int} {f x : Nat} {l : List UInt8} (hi : Inv (foldN n) f x l) (hx : x < 128) {v' : Value} {v : Value} {w1 : World} {o : Obj} (hown : OwnsB wr w.heap.size 5 v l) (hbel : Below w.heap.size w wr)
    (h1 : w1.ownsRow w.heap.size 5 1 v' (l.length + 1) (Lib.byteCells l ++ [.int .u8 (x : Int)])) (hg : (wr.alloc o).grownBy w1 v.ownBlock) :
    (convert 59 9 v').run Tryd.prog w1 = .ok (.string (numB n)) w1 ∧ Below w.heap.size w w1 := by
  obtain ⟨a, b⟩ := own_step hown hbel hbel.size (toNat_last hx).symm h1 hg
  have e := inv_end hi hx
  refine ⟨?_, b⟩
  rw [own_text _ _ _ Join.under Join.under8 Join.underS (by simp) a, e]
  rfl

set_option maxRecDepth 100000 in
set_option maxHeartbeats 1000000 in
theorem specPutNum_any (n : Int) (w : World) (h1 : -9223372036854775808 ≤ n) (h2 : n ≤ 9223372036854775807) :
    Calls Tryd.prog 35 #[.int .i64 n] w fun e w' => e = .returned (.string (numB n)) ∧ Below w.heap.size w w' := by
  have hf := foldN_lt n h1 h2
  have HI : Hid (Inv (foldN n) 9 (foldN n) []) := inv_start hf
  have hf' : (foldN n : Int) ≤ 18446744073709551615 := by omega
  clear hf
  obtain ⟨i0, hi, hz0, hz1, hz2⟩ := info_parts Join.info8
  have HF : Hid (∀ w, Calls Tryd.prog 46 #[.int .i64 n] w fun e w' => e = .returned (.int .u64 (foldN n)) ∧ w = w') := fun w => l01Fold_any n w h1 h2
  clear h1 h2
  go_enter Tryd.func35, Tryd.ntmps35
  go_wp2_with (first | (go_at_call 46; refine (HF.out _).mono ?_; rintro e w' ⟨rfl, rfl⟩) )
  go_loopw [3, 4] (fun u b wr => ∃ (f x : Nat) (l : List UInt8), u = .int .u64 x ∧ (x : Int) ≤ 18446744073709551615 ∧ Hid (Inv (foldN n) f x l) ∧ OwnsB wr w.heap.size 5 b l ∧ Below w.heap.size w wr) (fun u b wr => (intOf u).toNat)
  case atStart => exact ⟨9, foldN n, [], rfl, hf', HI, own_empty _ _ _ (Nat.le_refl _), (Below.refl _ _).alloc (Nat.le_refl _) _⟩
  case round =>
    obtain ⟨f, x, l, rfl, hx, HV, hown, hbel⟩ := hrel
    have hle := inv_le HV.out
    have hsz := hbel.size
    by_cases hlt : 128 ≤ x
    · go_wp2_with (at_builtin; refine wpList_append_own _ rfl _ _ 59 rfl w.heap.size 5 i0 (.int .u8 0) 1 1 Join.under hi hz0 hz1 hz2 rfl (by decide) _ _ _ rfl (World.ownsRow.alloc hown _) ⟨wr.heap.size, 0, none⟩ 1 1 [.int .u8 ((x : Int) % 128 + 128)] rfl rfl ?c1 ?c2 ?c3 ?c4 ?c5 ?_)
      case c1 =>
        intro j u hj
        match j, hj with
        | 0, hj => simp at hj; subst hj; simp [Addr.add]
      case c2 => intro u hu; simp at hu; subst hu; rfl
      case c3 => unfold maxLen; omega
      case c4 => omega
      case c5 => simp; omega
      · intro v' w1 hown' hgrow _
        have R := own_step hown hbel hbel.size (toNat_cont x).symm hown' hgrow
        obtain ⟨g, rfl, HV'⟩ := inv_step HV.out hlt
        have HV2 : Hid (Inv (foldN n) g (x / 128) (l ++ [UInt8.ofNat (x % 128 + 128)])) := HV'
        clear hown' hgrow hown HV' HV
        go_wp2
        go_roundw
        case rel => exact ⟨g, x / 128, _, by go_num, by omega, HV2, R.1, R.2⟩
        case measure => simp [intOf]; omega
    · have hx2 : x < 128 := by omega
      go_wp2_with (at_builtin; refine wpList_append_own _ rfl _ _ 59 rfl w.heap.size 5 i0 (.int .u8 0) 1 1 Join.under hi hz0 hz1 hz2 rfl (by decide) _ _ _ rfl (World.ownsRow.alloc hown _) ⟨wr.heap.size, 0, none⟩ 1 1 [.int .u8 (x : Int)] rfl rfl ?c1 ?c2 ?c3 ?c4 ?c5 ?_)
      case c1 =>
        intro j u hj
        match j, hj with
        | 0, hj => simp at hj; subst hj; simp [Addr.add]
      case c2 => intro u hu; simp at hu; subst hu; rfl
      case c3 => unfold maxLen; omega
      case c4 => omega
      case c5 => simp; omega
      · intro v' w1 hown' hgrow _
        obtain ⟨hcv, hB1⟩ := rel_spec HV.out hx2 hown hbel hown' hgrow
        clear hown' hgrow hown HV
        go_wp2
        go_ret
        exact ⟨rfl, hB1⟩

/-- The program's ten bytes: those of l, and zeros behind them. -/
def TenRow (W : World) (g : Nat) (l : List UInt8) : Prop := HasRow W g (Lib.byteCells l ++ List.replicate (10 - l.length) (.int .u8 0)) 73

theorem ten_start (w : World) : TenRow (w.alloc (.cells #[.int .u8 0, .int .u8 0, .int .u8 0, .int .u8 0, .int .u8 0, .int .u8 0, .int .u8 0, .int .u8 0, .int .u8 0, .int .u8 0] 73)) w.heap.size [] := by
  unfold TenRow HasRow
  show (w.heap.push _)[w.heap.size]? = _
  simp [Lib.byteCells, List.replicate]

theorem ten_cell {W : World} {g : Nat} {l : List UInt8} (h : TenRow W g l) (hl : l.length ≤ 9) : W.cell? ⟨g, l.length, none⟩ = some (.int .u8 0) ∧ W.frozen? ⟨g, l.length, none⟩ = false := by
  refine ⟨?_, Mem.frozen_of_row h _⟩
  rw [Mem.cell_of_row h, List.getElem?_append_right (by simp [Lib.byteCells])]
  have hd : 0 < 10 - l.length := by omega
  simp [Lib.byteCells, hd]

theorem ten_step {W : World} {g : Nat} {l : List UInt8} (h : TenRow W g l) (hl : l.length ≤ 9) {n : Int} {b : UInt8} (hn : n = (b.toNat : Int)) : TenRow (W.setCell ⟨g, l.length, none⟩ (.int .u8 n)) g (l ++ [b]) := by
  have := row_set h l.length (.int .u8 n)
  unfold TenRow
  subst hn
  have e : (Lib.byteCells l ++ List.replicate (10 - l.length) (Value.int .u8 0)).set l.length (.int .u8 (b.toNat : Int)) = Lib.byteCells (l ++ [b]) ++ List.replicate (10 - (l ++ [b]).length) (.int .u8 0) := by
    obtain ⟨m, hm⟩ : ∃ m, 10 - l.length = m + 1 := ⟨9 - l.length, by omega⟩
    have hm2 : 10 - (l ++ [b]).length = m := by simp; omega
    rw [hm, hm2, List.replicate_succ, List.set_append_right _ _ (by simp [Lib.byteCells])]
    simp [Lib.byteCells]
  rwa [e] at this

theorem ten_text {W : World} {g : Nat} {l : List UInt8} (h : TenRow W g l) (cap : Nat) : (convert 59 9 (.slice (some ⟨g, 0, none⟩) l.length cap)).run Tryd.prog W = .ok (.string ⟨l.toArray⟩) W :=
  text_of_row _ _ _ Join.under Join.under8 Join.underS W g cap l.length l _ rfl h

theorem mask127 (x : Nat) (h : (x : Int) ≤ 18446744073709551615) : bits .and .u64 (x : Int) 127 = (x : Int) % 128 := by
  have h1 := u64_and_nat x 127 (by omega) (by decide)
  have h2 : x &&& 127 = x % 128 := Nat.and_two_pow_sub_one_eq_mod x 7
  rw [h2] at h1
  simpa using h1

theorem ten_final {w wr : World} {n : Int} {f x : Nat} {l : List UInt8} (hi : Inv (foldN n) f x l) (hx : x < 128) (h : TenRow wr w.heap.size l) : 
    (convert 59 9 (.slice (some ⟨w.heap.size, 0, none⟩) (l.length + 1) 10)).run Tryd.prog (wr.setCell ⟨w.heap.size, l.length, none⟩ (.int .u8 (x : Int))) = .ok (.string (numB n)) (wr.setCell ⟨w.heap.size, l.length, none⟩ (.int .u8 (x : Int))) := by
  have h2 := ten_step h (inv_le hi) (toNat_last hx).symm
  have h3 := ten_text h2 10
  rw [inv_end hi hx] at h3
  have h4 := congrArg List.length (inv_end hi hx)
  simp at h4
  rw [← h4] at h3
  exact h3

set_option maxRecDepth 100000 in
set_option maxHeartbeats 1000000 in
theorem implPutNum_any (n : Int) (w : World) (h1 : -9223372036854775808 ≤ n) (h2 : n ≤ 9223372036854775807) :
    Calls Tryd.prog 27 #[.int .i64 n] w fun e w' => e = .returned (.string (numB n)) ∧ Below w.heap.size w w' := by
  have hf := foldN_lt n h1 h2
  have HI : Hid (Inv (foldN n) 9 (foldN n) []) := inv_start hf
  have hf' : (foldN n : Int) ≤ 18446744073709551615 := by omega
  clear hf
  have HF : Hid (∀ w, Calls Tryd.prog 45 #[.int .i64 n] w fun e w' => e = .returned (.int .u64 (foldN n)) ∧ w = w') := fun w => fold_any n w h1 h2
  clear h1 h2
  have HT := ten_start w
  have HT2 : Hid _ := HT
  clear HT
  go_enter Tryd.func27, Tryd.ntmps27
  go_wp2_with (first | (go_at_call 45; refine (HF.out _).mono ?_; rintro e w' ⟨rfl, rfl⟩) )
  go_loopw [4, 5] (fun i u wr => ∃ (f x : Nat) (l : List UInt8), u = .int .u64 x ∧ i = .int .i64 (l.length : Nat) ∧ (x : Int) ≤ 18446744073709551615 ∧ Hid (Inv (foldN n) f x l) ∧ TenRow wr w.heap.size l ∧ Below w.heap.size w wr) (fun i u wr => (intOf u).toNat)
  case atStart => exact ⟨9, foldN n, [], rfl, rfl, hf', HI, HT2.out, (Below.refl _ _).alloc (Nat.le_refl _) _⟩
  case round =>
    obtain ⟨f, x, l, rfl, rfl, hx, HV, hrow, hbel⟩ := hrel
    have hle := inv_le HV.out
    obtain ⟨hcell, hfz⟩ := ten_cell hrow hle
    by_cases hlt : 128 ≤ x
    · have R := ten_step hrow hle (toNat_cont x).symm
      have hm := mask127 x hx
      obtain ⟨g, rfl, HV'⟩ := inv_step HV.out hlt
      have HV2 : Hid (Inv (foldN n) g (x / 128) (l ++ [UInt8.ofNat (x % 128 + 128)])) := HV'
      have HR : Hid (TenRow (wr.setCell ⟨w.heap.size, l.length, none⟩ (.int .u8 ((x : Int) % 128 + 128))) w.heap.size (l ++ [UInt8.ofNat (x % 128 + 128)])) := R
      clear R HV' HV hrow
      go_wp2
      go_roundw
      case rel => exact ⟨g, x / 128, _, by go_num, by simp, by omega, HV2, HR.out, hbel.setCell (Nat.le_refl _) _⟩
      case measure => simp [intOf]; omega
    · have hx2 : x < 128 := by omega
      have hcv := ten_final HV.out hx2 hrow
      have hle1 : (l.length : Int) + 1 ≤ 10 := by omega
      have hle0 : (0 : Int) ≤ (l.length : Int) + 1 := by omega
      clear HV hrow
      go_wp2
      go_ret
      exact ⟨rfl, hbel.setCell (Nat.le_refl _) _⟩
end Go.Proofs.YtkanhjafchiikaaDoor.PutNum

/- What the two PutText functions answer, by contracts. -/
namespace Go.Proofs.YtkanhjafchiikaaDoor.PutText
open Go.RowKit Go.Proofs.YtkanhjafchiikaaDoor.Mem Go.Proofs.YtkanhjafchiikaaDoor.PutNum

/-- The bytes of a text of at most 8000 bytes. -/
def textB (t : ByteArray) : ByteArray := numB (t.size : Nat) ++ t

theorem size_numB (n : Int) : (numB n).size ≤ 10 := (length_numL n).2

theorem specPutText_out (t : ByteArray) (w : World) (h : 8000 < (t.size : Int)) :
    Calls Tryd.prog 36 #[.string t] w fun e w' => e = .returned (.string ByteArray.empty) ∧ Below w.heap.size w w' := by
  go_enter Tryd.func36, Tryd.ntmps36
  go_wp2
  go_ret
  exact ⟨rfl, Below.refl _ _⟩

theorem implPutText_out (t : ByteArray) (w : World) (h : 8000 < (t.size : Int)) :
    Calls Tryd.prog 28 #[.string t] w fun e w' => e = .returned (.string ByteArray.empty) ∧ Below w.heap.size w w' := by
  go_enter Tryd.func28, Tryd.ntmps28
  go_wp2
  go_ret
  exact ⟨rfl, Below.refl _ _⟩

set_option maxHeartbeats 400000 in
theorem specPutText_in (t : ByteArray) (w : World) (h : (t.size : Int) ≤ 8000) :
    Calls Tryd.prog 36 #[.string t] w fun e w' => e = .returned (.string (textB t)) ∧ Below w.heap.size w w' := by
  have K1 : Hid (∀ w, Calls Tryd.prog 35 #[.int .i64 (t.size : Nat)] w fun e w' => e = .returned (.string (numB (t.size : Nat))) ∧ Below w.heap.size w w') := fun w => specPutNum_any _ w (by omega) (by omega)
  have hz := size_numB (t.size : Nat)
  go_enter Tryd.func36, Tryd.ntmps36
  go_wp2_with (go_at_call 35; refine (K1.out _).mono ?_; rintro e w1 ⟨rfl, hb1⟩)
  go_ret
  exact ⟨rfl, hb1⟩

set_option maxHeartbeats 400000 in
theorem implPutText_in (t : ByteArray) (w : World) (h : (t.size : Int) ≤ 8000) :
    Calls Tryd.prog 28 #[.string t] w fun e w' => e = .returned (.string (textB t)) ∧ Below w.heap.size w w' := by
  have K1 : Hid (∀ w, Calls Tryd.prog 27 #[.int .i64 (t.size : Nat)] w fun e w' => e = .returned (.string (numB (t.size : Nat))) ∧ Below w.heap.size w w') := fun w => implPutNum_any _ w (by omega) (by omega)
  have hz := size_numB (t.size : Nat)
  have hz1 : (numB (t.size : Nat)).size ≤ 10000000 := by omega
  have hz2 : t.size ≤ 10000000 := by omega
  go_enter Tryd.func28, Tryd.ntmps28
  go_wp2_with (first | (go_at_call 27; refine (K1.out _).mono ?_; rintro e w1 ⟨rfl, hb1⟩) | (go_at_call 22; refine (Join.join_any _ _ _ hz1 hz2).mono ?_; rintro e w2 ⟨rfl, hb2⟩))
  go_ret
  exact ⟨rfl, bstep hb1 hb2⟩
end Go.Proofs.YtkanhjafchiikaaDoor.PutText

/- What the two functions answer that lay a sum down in four bytes. -/
namespace Go.Proofs.YtkanhjafchiikaaDoor.Four
open Go.RowKit Go.Proofs.YtkanhjafchiikaaDoor.Mem

/-- The four bytes of a number, the lowest first. -/
def fourB (n : Nat) : ByteArray := ⟨#[UInt8.ofNat n, UInt8.ofNat (n / 256), UInt8.ofNat (n / 65536), UInt8.ofNat (n / 16777216)]⟩

theorem size_fourB (n : Nat) : (fourB n).size = 4 := rfl

theorem ofNat_mod (n : Nat) : UInt8.ofNat (n % 256) = UInt8.ofNat n := by
  apply UInt8.toNat.inj; simp

theorem text4 (w : World) (x0 x1 x2 x3 : Int) (T : TypeId) :
    (convert 59 9 (.slice (some ⟨w.heap.size, 0, none⟩) 4 4)).run Tryd.prog (w.alloc (.cells #[.int .u8 x0, .int .u8 x1, .int .u8 x2, .int .u8 x3] T)) =
      .ok (.string ⟨#[UInt8.ofNat x0.toNat, UInt8.ofNat x1.toNat, UInt8.ofNat x2.toNat, UInt8.ofNat x3.toNat]⟩) (w.alloc (.cells #[.int .u8 x0, .int .u8 x1, .int .u8 x2, .int .u8 x3] T)) := by
  rw [run_convert_bytes_string _ _ _ _ _ _ _ Join.under Join.under8 Join.underS]
  have hl := run_loadCells_list (P := Tryd.prog) (w.alloc (.cells #[.int .u8 x0, .int .u8 x1, .int .u8 x2, .int .u8 x3] T)) ⟨w.heap.size, 0, none⟩ ([x0, x1, x2, x3].map (Value.int .u8)) (fun j v hj => by
    have ha : (⟨w.heap.size, 0, none⟩ : Addr).add j = ⟨w.heap.size, j, none⟩ := by unfold Addr.add; split <;> simp_all
    rw [ha, World.cell?_alloc_mark, ← hj]
    simp)
  rw [run_bytesToString _ _ 4 4 [x0, x1, x2, x3] hl]
  rfl

theorem four_eq (n : Nat) : (⟨#[UInt8.ofNat (n % 256), UInt8.ofNat (n / 256 % 256), UInt8.ofNat (n / 65536 % 256), UInt8.ofNat (n / 16777216)]⟩ : ByteArray) = fourB n := by
  rw [ofNat_mod, ofNat_mod, ofNat_mod]; rfl

theorem ret_str {a b : ByteArray} (h : a = b) : Ending.returned (.string a) = .returned (.string b) := by rw [h]

set_option maxHeartbeats 400000 in
theorem l01Four_any (n : Nat) (w : World) (hn : n < 4294967296) :
    Calls Tryd.prog 15 #[.int .i64 n] w fun e w' => e = .returned (.string (fourB n)) ∧ Below w.heap.size w w' := by
  have ht := text4
  go_enter Tryd.func15, Tryd.ntmps15
  go_wp2
  go_ret
  exact ⟨ret_str (four_eq n), (Below.refl _ _).alloc (Nat.le_refl _) _⟩

set_option maxHeartbeats 400000 in
theorem sumText_any (n : Nat) (w : World) (hn : n < 4294967296) :
    Calls Tryd.prog 37 #[.int .i64 n] w fun e w' => e = .returned (.string (fourB n)) ∧ Below w.heap.size w w' := by
  have ht := text4
  go_enter Tryd.func37, Tryd.ntmps37
  go_wp2
  refine wp_loop_rounds 5 ?_
  iterate 5 (rw [rounds_succ]; go_wp2)
  go_ret
  exact ⟨ret_str (four_eq n), (Below.refl _ _).alloc (Nat.le_refl _) _⟩
end Go.Proofs.YtkanhjafchiikaaDoor.Four
