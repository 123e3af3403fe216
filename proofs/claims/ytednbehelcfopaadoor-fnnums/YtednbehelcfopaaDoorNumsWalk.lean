/- FnNums' own road. -/
import Derived.Test.YtednbehelcfopaaDoorNumsLaws
import Derived.Laws.StructEq
namespace Go.Proofs.YtednbehelcfopaaDoor.NumsWalk
open Go.RowKit Go.Proofs.YtednbehelcfopaaDoor.Mem Go.Proofs.YtednbehelcfopaaDoor.GetNum Go.Proofs.YtednbehelcfopaaDoor.GetText Go.Proofs.YtednbehelcfopaaDoor.PutNum Go.Proofs.YtednbehelcfopaaDoor.PutText Go.Proofs.YtednbehelcfopaaDoor.NumRound Go.Proofs.YtednbehelcfopaaDoor.Draw Go.Proofs.YtednbehelcfopaaDoor.NumsLaws

theorem fldN (x y z : Int) (w : World) : (Instr.field 26 (.agg #[.int .i64 x, .int .i64 y, .int .i64 z]) 2).run Tryd.prog w = .ok (.int .i64 z) w := by kernel_rfl
theorem fldT (a : ByteArray) (y z : Int) (w : World) : (Instr.field 31 (.agg #[.string a, .int .i64 y, .int .i64 z]) 2).run Tryd.prog w = .ok (.int .i64 z) w := by kernel_rfl

theorem big (a0 : Option Addr) (len0 cap0 : Nat) (a1 : Option Addr) (len1 cap1 : Nat) (w : World) (h : (1048576 : Int) < len0 ∨ (1048576 : Int) < len1) :
    Calls Tryd.prog 3 #[.slice a0 len0 cap0, .slice a1 len1 cap1] w fun e w' => e = .returned (.bool true) ∧ Below w.heap.size w w' := by
  by_cases h0 : (1048576 : Int) < len0
  · go_enter Tryd.func3, Tryd.ntmps3
    go_wp2
    go_ret
    exact ⟨rfl, Below.refl _ _⟩
  · have h1 : (1048576 : Int) < len1 := by omega
    go_enter Tryd.func3, Tryd.ntmps3
    go_wp2
    go_ret
    exact ⟨rfl, Below.refl _ _⟩

theorem not_empty (s : ByteArray) (h : 1 ≤ s.size) : s.toList.isEmpty = false := by
  rw [ByteArray.toList_eq]
  cases hl : s.data.toList with
  | nil =>
    have : s.size = 0 := by show s.data.size = 0; rw [← Array.length_toList, hl]; rfl
    omega
  | cons a b => rfl

set_option maxRecDepth 100000 in
set_option maxHeartbeats 4000000 in
theorem small (a0 : Option Addr) (len0 cap0 : Nat) (z0 : List Int) (a1 : Option Addr) (len1 cap1 : Nat) (z1 : List Int) (w : World) (hL : Laid w) (w0 : IsRow w a0 len0 cap0 z0) (w1 : IsRow w a1 len1 cap1 z1)
    (h0 : (len0 : Int) ≤ 1048576) (h1 : (len1 : Int) ≤ 1048576) :
    Calls Tryd.prog 3 #[.slice a0 len0 cap0, .slice a1 len1 cap1] w fun e w' => e = .returned (.bool true) ∧ Below w.heap.size w w' := by
  have H0 : Hid (IsRow w a0 len0 cap0 z0) := w0
  have H1 : Hid (IsRow w a1 len1 cap1 z1) := w1
  have HL : Hid (Laid w) := hL
  have hfn := fldN
  have hft := fldT
  clear w0 w1 hL
  go_enter Tryd.func3, Tryd.ntmps3
  go_wp2_with fail
  refine (drawPutNum_any w a0 len0 cap0 z0 H0.out).mono ?_
  rintro e W1 ⟨n, rfl, hn1, hn2, hb1⟩
  have hz1 : (1 : Int) ≤ ((numB n).size : Int) := by have := numB_pos n; omega
  have hz2 : ((numB n).size : Int) ≤ 10 := by have := size_numB n; omega
  have K2 : Hid (∀ w, Calls Tryd.prog 7 #[.string ((⟨#[120, 121]⟩ : ByteArray) ++ numB n ++ ⟨#[122]⟩), .int .i64 2] w fun e w' => e = .returned (.agg #[.int .i64 n, .int .i64 (((numB n).size : Int) + 2), .int .i64 0]) ∧ Below w.heap.size w w') := by
    intro w
    have hr := rd_in ⟨#[120, 121]⟩ ⟨#[122]⟩ n hn1 hn2
    have hs : ((⟨#[120, 121]⟩ : ByteArray) ++ numB n ++ ⟨#[122]⟩).size ≤ 20 := by
      rw [ByteArray.size_append, ByteArray.size_append]
      show 2 + (numB n).size + 1 ≤ 20
      omega
    have := getNum_ok _ 2 _ _ w (by omega) (by omega) (foldN_lt n hn1 hn2) hr
    rw [unfold_fold] at this
    have e : ((numB n).size : Int) + 2 = (((⟨#[120, 121]⟩ : ByteArray).size + (numB n).size : Nat) : Int) := by
      show _ = ((2 + (numB n).size : Nat) : Int)
      omega
    rw [e]
    exact this
  have K4 : Hid (∀ w, Laid w → Calls Tryd.prog 7 #[.string ((numB n).extract 0 ((numB n).size - 1)), .int .i64 0] w fun e w' => e = .returned (.agg #[.int .i64 0, .int .i64 0, .int .i64 4]) ∧ Below w.heap.size w w') := by
    intro w hw
    have hs : ((numB n).extract 0 ((numB n).size - 1)).size ≤ 20 := by rw [ByteArray.size_extract]; omega
    exact getNum_no _ 0 4 w hw (by omega) (by omega) (rd_off n hn1 hn2) (by decide)
  go_wp2_with fail
  refine (implPutNum_any n W1 hn1 hn2).mono ?_
  rintro e W2 ⟨rfl, hb2⟩
  go_wp2_with fail
  refine (specPutNum_any n W2 hn1 hn2).mono ?_
  rintro e W3 ⟨rfl, hb3⟩
  have hB3 := Mem.bstep (Mem.bstep hb1 hb2) hb3
  clear hb1 hb2 hb3
  have hA : ((numB n).size : Int) - 1 ≤ ((numB n).size : Int) := by omega
  have hN : (((numB n).size : Int) - 1).toNat = (numB n).size - 1 := by omega
  go_wp2_with fail
  refine (K2.out _).mono ?_
  rintro e W4 ⟨rfl, hb4⟩
  have hB4 := Mem.balloc (Mem.bstep hB3 hb4) (.cells #[.int .i64 n, .int .i64 (((numB n).size : Int) + 2), .int .i64 0] 26)
  go_wp2_with fail
  refine (K4.out _ (laid_below HL.out hB4)).mono ?_
  rintro e W5 ⟨rfl, hb5⟩
  have hB5 := Mem.bstep hB4 hb5
  clear hB3 hb4 hB4 hb5 K2 K4
  go_wp2_with fail
  refine (drawPutText_any W5 a1 len1 cap1 z1 (row_below H1.out hB5)).mono ?_
  rintro e W6 ⟨u, rfl, hu, hb6⟩
  have hB6 := Mem.bstep hB5 hb6
  clear hB5 hb6
  by_cases h8 : 8000 < (u.size : Int)
  · go_wp2_with fail
    refine (implPutText_out u W6 h8).mono ?_
    rintro e W7 ⟨rfl, hb7⟩
    go_wp2_with fail
    refine (specPutText_out u W7 h8).mono ?_
    rintro e W8 ⟨rfl, hb8⟩
    have hB8 := Mem.bstep (Mem.bstep hB6 hb7) hb8
    go_wp2_with fail
    refine (specPutText_out u W8 h8).mono ?_
    rintro e W9 ⟨rfl, hb9⟩
    go_wp2
    go_ret
    exact ⟨rfl, Mem.bstep hB8 hb9⟩
  · have h8' : (u.size : Int) ≤ 8000 := by omega
    have hts := textB_size u
    have hup := numB_pos (u.size : Nat)
    have hu10 := size_numB (u.size : Nat)
    have hte := not_empty (textB u) (by omega)
    have ht1 : (1 : Int) ≤ ((textB u).size : Int) := by omega
    have ht2 : ((textB u).size : Int) ≤ 8010 := by omega
    have htA : ((textB u).size : Int) - 1 ≤ ((textB u).size : Int) := by omega
    have htN : (((textB u).size : Int) - 1).toNat = (textB u).size - 1 := by omega
    have HTS : Hid ((textB u).size = (numB (u.size : Nat)).size + u.size) := hts
    clear hts hup hu10
    go_wp2_with fail
    refine (implPutText_in u W6 h8').mono ?_
    rintro e W7 ⟨rfl, hb7⟩
    go_wp2_with fail
    refine (specPutText_in u W7 h8').mono ?_
    rintro e W8 ⟨rfl, hb8⟩
    have hB8 := Mem.bstep (Mem.bstep hB6 hb7) hb8
    clear hB6 hb7 hb8
    by_cases hfit : (8000 : Int) < ((textB u).size : Int) + 1
    · go_wp2
      go_ret
      exact ⟨rfl, hB8⟩
    · have K5 : Hid (∀ w, Laid w → Calls Tryd.prog 11 #[.string ((⟨#[120]⟩ : ByteArray) ++ textB u), .int .i64 1] w fun e w' => e = .returned (.agg #[.string u, .int .i64 (((textB u).size : Int) + 1), .int .i64 0]) ∧ Below w.heap.size w w') := fun w hw => getText_back ⟨#[120]⟩ rfl u w hw (by omega)
      have K6 : Hid (∀ w, Laid w → Calls Tryd.prog 11 #[.string ((textB u).extract 0 ((textB u).size - 1)), .int .i64 0] w fun e w' => e = .returned (.agg #[.string ByteArray.empty, .int .i64 0, .int .i64 4]) ∧ Below w.heap.size w w') := fun w hw => getText_off u w hw (by omega)
      go_wp2_with fail
      refine (K5.out _ (laid_below HL.out hB8)).mono ?_
      rintro e W9 ⟨rfl, hb9⟩
      have hB9 := Mem.bstep hB8 hb9
      go_wp2_with fail
      refine (K6.out _ (laid_below HL.out hB9)).mono ?_
      rintro e W10 ⟨rfl, hb10⟩
      go_wp2
      go_ret
      exact ⟨rfl, Mem.bstep hB9 hb10⟩

theorem law_any (a0 : Option Addr) (len0 cap0 : Nat) (z0 : List Int) (a1 : Option Addr) (len1 cap1 : Nat) (z1 : List Int) (w : World) (hL : Laid w) (w0 : IsRow w a0 len0 cap0 z0) (w1 : IsRow w a1 len1 cap1 z1) :
    Calls Tryd.prog 3 #[.slice a0 len0 cap0, .slice a1 len1 cap1] w fun e w' => e = .returned (.bool true) ∧ Below w.heap.size w w' := by
  by_cases h : (1048576 : Int) < len0 ∨ (1048576 : Int) < len1
  · exact big a0 len0 cap0 a1 len1 cap1 w h
  · exact small a0 len0 cap0 z0 a1 len1 cap1 z1 w hL w0 w1 (by omega) (by omega)
end Go.Proofs.YtednbehelcfopaaDoor.NumsWalk
