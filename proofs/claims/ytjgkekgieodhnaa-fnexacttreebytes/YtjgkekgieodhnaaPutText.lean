/- What the two PutText functions answer, by contracts. -/
import Derived.Test.YtjgkekgieodhnaaPutNum
namespace Go.Proofs.Ytjgkekgieodhnaa.PutText
open Go.RowKit Go.Proofs.Ytjgkekgieodhnaa.Mem Go.Proofs.Ytjgkekgieodhnaa.PutNum

/-- The bytes of a text of at most 8000 bytes. -/
def textB (t : ByteArray) : ByteArray := numB (t.size : Nat) ++ t

theorem size_numB (n : Int) : (numB n).size ≤ 10 := (length_numL n).2

theorem specPutText_out (t : ByteArray) (w : World) (h : 8000 < (t.size : Int)) :
    Calls Try.prog 63 #[.string t] w fun e w' => e = .returned (.string ByteArray.empty) ∧ Below w.heap.size w w' := by
  go_enter Try.func63, Try.ntmps63
  go_wp2
  go_ret
  exact ⟨rfl, Below.refl _ _⟩

theorem implPutText_out (t : ByteArray) (w : World) (h : 8000 < (t.size : Int)) :
    Calls Try.prog 48 #[.string t] w fun e w' => e = .returned (.string ByteArray.empty) ∧ Below w.heap.size w w' := by
  go_enter Try.func48, Try.ntmps48
  go_wp2
  go_ret
  exact ⟨rfl, Below.refl _ _⟩

set_option maxHeartbeats 400000 in
theorem specPutText_in (t : ByteArray) (w : World) (h : (t.size : Int) ≤ 8000) :
    Calls Try.prog 63 #[.string t] w fun e w' => e = .returned (.string (textB t)) ∧ Below w.heap.size w w' := by
  have K1 : Hid (∀ w, Calls Try.prog 62 #[.int .i64 (t.size : Nat)] w fun e w' => e = .returned (.string (numB (t.size : Nat))) ∧ Below w.heap.size w w') := fun w => specPutNum_any _ w (by omega) (by omega)
  have hz := size_numB (t.size : Nat)
  go_enter Try.func63, Try.ntmps63
  go_wp2_with (go_at_call 62; refine (K1.out _).mono ?_; rintro e w1 ⟨rfl, hb1⟩)
  go_ret
  exact ⟨rfl, hb1⟩

set_option maxHeartbeats 400000 in
theorem implPutText_in (t : ByteArray) (w : World) (h : (t.size : Int) ≤ 8000) :
    Calls Try.prog 48 #[.string t] w fun e w' => e = .returned (.string (textB t)) ∧ Below w.heap.size w w' := by
  have K1 : Hid (∀ w, Calls Try.prog 47 #[.int .i64 (t.size : Nat)] w fun e w' => e = .returned (.string (numB (t.size : Nat))) ∧ Below w.heap.size w w') := fun w => implPutNum_any _ w (by omega) (by omega)
  have hz := size_numB (t.size : Nat)
  have hz1 : (numB (t.size : Nat)).size ≤ 10000000 := by omega
  have hz2 : t.size ≤ 10000000 := by omega
  go_enter Try.func48, Try.ntmps48
  go_wp2_with (first | (go_at_call 47; refine (K1.out _).mono ?_; rintro e w1 ⟨rfl, hb1⟩) | (go_at_call 55; refine (Join.join_any _ _ _ hz1 hz2).mono ?_; rintro e w2 ⟨rfl, hb2⟩))
  go_ret
  exact ⟨rfl, bstep hb1 hb2⟩
end Go.Proofs.Ytjgkekgieodhnaa.PutText
