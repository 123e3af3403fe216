/- What the laws' markText answers. -/
import Derived.Test.YtfpgobkedfhakaaRows
import Derived.Test.YtfpgobkedfhakaaMarkPure
import Derived.Test.YtfpgobkedfhakaaMemLaws
namespace Go.Proofs.Ytfpgobkedfhakaa.Mark
open Go.RowKit Go.Proofs.Ytfpgobkedfhakaa.Mem

theorem under : Try.prog.underlying 121 = some (.slice 5) := by kernel_rfl
theorem underS : Try.prog.underlying 9 = some .string := by kernel_rfl
theorem under8 : Try.prog.underlying 5 = some (.int .u8) := by kernel_rfl

theorem digit_text (W : World) (x : Nat) : (convert 121 9 (.slice (some ⟨W.heap.size, 0, none⟩) 1 1)).run Try.prog (W.alloc (.cells #[.int .u8 (48 + (x : Int) % 10)] 5)) = .ok (.string ⟨#[UInt8.ofNat (48 + x % 10)]⟩) (W.alloc (.cells #[.int .u8 (48 + (x : Int) % 10)] 5)) := by
  have h := text_of_row (P := Try.prog) 121 9 5 under under8 underS (W.alloc (.cells #[.int .u8 (48 + (x : Int) % 10)] 5)) W.heap.size 1 1 [UInt8.ofNat (48 + x % 10)] [] rfl (T := 5) (by
    show (W.heap.push _)[W.heap.size]? = _
    have e : (UInt8.ofNat (48 + x % 10)).toNat = 48 + x % 10 := by rw [UInt8.toNat_ofNat']; omega
    simp [Lib.byteCells]
    omega)
  exact h

theorem cons_text (c : UInt8) (acc : List UInt8) : (⟨#[c]⟩ : ByteArray) ++ (⟨acc.toArray⟩ : ByteArray) = ⟨(c :: acc).toArray⟩ := by
  apply ByteArray.ext
  simp

theorem digs_len : ∀ (n k : Nat) (acc : List UInt8), k < 10 ^ n → (digs k acc).length ≤ acc.length + n
  | 0, k, acc, h => by
    obtain rfl : k = 0 := by simpa using h
    rw [digs_zero]; omega
  | n + 1, k, acc, h => by
    by_cases hk : k = 0
    · subst hk; rw [digs_zero]; omega
    · rw [digs_pos (by omega)]
      have := digs_len n (k / 10) (UInt8.ofNat (48 + k % 10) :: acc) (by rw [Nat.pow_succ] at h; omega)
      rw [List.length_cons] at this
      omega
theorem acc_len : ∀ (n k : Nat) (acc : List UInt8), k ≤ n → acc.length ≤ (digs k acc).length
  | 0, k, acc, h => by
    obtain rfl : k = 0 := by omega
    rw [digs_zero]; omega
  | n + 1, k, acc, h => by
    by_cases hk : k = 0
    · subst hk; rw [digs_zero]; omega
    · rw [digs_pos (by omega)]
      have := acc_len n (k / 10) (UInt8.ofNat (48 + k % 10) :: acc) (by omega)
      rw [List.length_cons] at this
      omega

set_option maxHeartbeats 1000000 in
theorem markText_any (k : Nat) (w : World) (hk : k ≤ 1000000000) :
    Calls Try.prog 65 #[.int .i64 (k : Int)] w fun e w' => e = .returned (.string (markB k)) ∧ Below w.heap.size w w' := by
  by_cases h0 : k = 0
  · subst h0
    go_enter Try.func65, Try.ntmps65
    go_wp2
    go_ret
    exact ⟨rfl, Below.refl _ _⟩
  · have hkp : ¬ (k : Int) ≤ 0 := by omega
    have e : markB k = ⟨(109 :: digs k []).toArray⟩ := by unfold markB; rw [if_neg h0]
    have hlen : (digs k []).length ≤ 10 := by
      have := digs_len 10 k [] (by omega)
      simpa using this
    rw [e]
    have HL : Hid ((digs k []).length ≤ 10) := hlen
    generalize hD : digs k [] = D at *
    have HD : Hid (digs k [] = D) := hD
    clear hD e hlen
    go_enter Try.func65, Try.ntmps65
    go_wp2
    go_loopw [0, 3] (fun k out wr => ∃ (x : Nat) (acc : List UInt8), k = .int .i64 x ∧ out = .string ⟨acc.toArray⟩ ∧ x ≤ 1000000000 ∧ Hid (digs x acc = D) ∧ Below w.heap.size w wr) (fun k _ _ => (intOf k).toNat)
    case atStart => exact ⟨k, [], rfl, rfl, hk, HD.out, Below.refl _ _⟩
    case round =>
      obtain ⟨x, acc, rfl, rfl, hx, HX, hbel⟩ := hrel
      have hacc : (⟨acc.toArray⟩ : ByteArray).size ≤ 10 := by
        have := acc_len x x acc (Nat.le_refl _)
        have h2 := HX.out
        have h3 := HL.out
        show acc.toArray.size ≤ 10
        simp
        rw [h2] at this
        omega
      by_cases hp : 0 < x
      · have hdt := digit_text wr x
        have hct := cons_text (UInt8.ofNat (48 + x % 10)) acc
        have HX2 : Hid (digs (x / 10) (UInt8.ofNat (48 + x % 10) :: acc) = D) := by unfold Hid; rw [← digs_pos hp]; exact HX.out
        clear HX
        generalize UInt8.ofNat (48 + x % 10) = c at *
        have HCT : Hid _ := hct
        generalize (⟨acc.toArray⟩ : ByteArray) = ab at *
        go_wp2
        exact ⟨⟨x / 10, c :: acc, by go_num, rfl, by omega, HX2, hbel.alloc hbel.size _⟩, by simp [intOf]; omega⟩
      · have e0 : x = 0 := by omega
        subst e0
        have HE : Hid (acc = D) := by have := HX.out; rw [digs_zero] at this; exact this
        have hct := cons_text 109 acc
        have hfin : Ending.returned (.string ((⟨#[109]⟩ : ByteArray) ++ ⟨acc.toArray⟩)) = .returned (.string ⟨(109 :: D).toArray⟩) := by rw [hct, HE.out]
        have HF : Hid _ := hfin
        clear hct hfin HX
        generalize (⟨acc.toArray⟩ : ByteArray) = ab at *
        go_wp2
        go_ret
        exact ⟨HF.out, hbel⟩
end Go.Proofs.Ytfpgobkedfhakaa.Mark
