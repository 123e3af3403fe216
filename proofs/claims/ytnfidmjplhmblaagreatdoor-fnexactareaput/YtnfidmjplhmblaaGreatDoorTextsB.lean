/- Laws that the proof rests on, put together: What the laws' markText answers. What the program's join answers: the two texts in one, in new memory. -/
import Derived.Test.YtnfidmjplhmblaaGreatDoorRows
import Derived.Test.YtnfidmjplhmblaaGreatDoorTextsA
/- What the laws' markText answers. -/
namespace Go.Proofs.YtnfidmjplhmblaaGreatDoor.Mark
open Go.RowKit Go.Proofs.YtnfidmjplhmblaaGreatDoor.Mem

theorem under : Tryz.prog.underlying 77 = some (.slice 5) := by kernel_rfl
theorem underS : Tryz.prog.underlying 9 = some .string := by kernel_rfl
theorem under8 : Tryz.prog.underlying 5 = some (.int .u8) := by kernel_rfl

theorem digit_text (W : World) (x : Nat) : (convert 77 9 (.slice (some ⟨W.heap.size, 0, none⟩) 1 1)).run Tryz.prog (W.alloc (.cells #[.int .u8 (48 + (x : Int) % 10)] 5)) = .ok (.string ⟨#[UInt8.ofNat (48 + x % 10)]⟩) (W.alloc (.cells #[.int .u8 (48 + (x : Int) % 10)] 5)) := by
  have h := text_of_row (P := Tryz.prog) 77 9 5 under under8 underS (W.alloc (.cells #[.int .u8 (48 + (x : Int) % 10)] 5)) W.heap.size 1 1 [UInt8.ofNat (48 + x % 10)] [] rfl (T := 5) (by
    show (W.heap.push _)[W.heap.size]? = _
    have e : (UInt8.ofNat (48 + x % 10)).toNat = 48 + x % 10 := by rw [UInt8.toNat_ofNat']; omega
    simp [Lib.byteCells]
    omega)
  exact h

theorem cons_text (c : UInt8) (acc : List UInt8) : (⟨#[c]⟩ : ByteArray) ++ (⟨acc.toArray⟩ : ByteArray) = ⟨(c :: acc).toArray⟩ := by
  apply ByteArray.ext
  simp

theorem digs_len : ∀ (n k : Nat) (acc : List UInt8), k < 10 ^ n → (digs k acc).length ≤ acc.length + n
  | 0, k, acc, h => by
    obtain rfl : k = 0 := by simpa using h
    rw [digs_zero]; omega
  | n + 1, k, acc, h => by
    by_cases hk : k = 0
    · subst hk; rw [digs_zero]; omega
    · rw [digs_pos (by omega)]
      have := digs_len n (k / 10) (UInt8.ofNat (48 + k % 10) :: acc) (by rw [Nat.pow_succ] at h; omega)
      rw [List.length_cons] at this
      omega
theorem acc_len : ∀ (n k : Nat) (acc : List UInt8), k ≤ n → acc.length ≤ (digs k acc).length
  | 0, k, acc, h => by
    obtain rfl : k = 0 := by omega
    rw [digs_zero]; omega
  | n + 1, k, acc, h => by
    by_cases hk : k = 0
    · subst hk; rw [digs_zero]; omega
    · rw [digs_pos (by omega)]
      have := acc_len n (k / 10) (UInt8.ofNat (48 + k % 10) :: acc) (by omega)
      rw [List.length_cons] at this
      omega

set_option maxHeartbeats 1000000 in
theorem markText_any (k : Nat) (w : World) (hk : k ≤ 1000000000) :
    Calls Tryz.prog 57 #[.int .i64 (k : Int)] w fun e w' => e = .returned (.string (markB k)) ∧ Below w.heap.size w w' := by
  by_cases h0 : k = 0
  · subst h0
    go_enter Tryz.func57, Tryz.ntmps57
    go_wp2
    go_ret
    exact ⟨rfl, Below.refl _ _⟩
  · have hkp : ¬ (k : Int) ≤ 0 := by omega
    have e : markB k = ⟨(109 :: digs k []).toArray⟩ := by unfold markB; rw [if_neg h0]
    have hlen : (digs k []).length ≤ 10 := by
      have := digs_len 10 k [] (by omega)
      simpa using this
    rw [e]
    have HL : Hid ((digs k []).length ≤ 10) := hlen
    generalize hD : digs k [] = D at *
    have HD : Hid (digs k [] = D) := hD
    clear hD e hlen
    go_enter Tryz.func57, Tryz.ntmps57
    go_wp2
    go_loopw [0, 3] (fun k out wr => ∃ (x : Nat) (acc : List UInt8), k = .int .i64 x ∧ out = .string ⟨acc.toArray⟩ ∧ x ≤ 1000000000 ∧ Hid (digs x acc = D) ∧ Below w.heap.size w wr) (fun k _ _ => (intOf k).toNat)
    case atStart => exact ⟨k, [], rfl, rfl, hk, HD.out, Below.refl _ _⟩
    case round =>
      obtain ⟨x, acc, rfl, rfl, hx, HX, hbel⟩ := hrel
      have hacc : (⟨acc.toArray⟩ : ByteArray).size ≤ 10 := by
        have := acc_len x x acc (Nat.le_refl _)
        have h2 := HX.out
        have h3 := HL.out
        show acc.toArray.size ≤ 10
        simp
        rw [h2] at this
        omega
      by_cases hp : 0 < x
      · have hdt := digit_text wr x
        have hct := cons_text (UInt8.ofNat (48 + x % 10)) acc
        have HX2 : Hid (digs (x / 10) (UInt8.ofNat (48 + x % 10) :: acc) = D) := by unfold Hid; rw [← digs_pos hp]; exact HX.out
        clear HX
        generalize UInt8.ofNat (48 + x % 10) = c at *
        have HCT : Hid _ := hct
        generalize (⟨acc.toArray⟩ : ByteArray) = ab at *
        go_wp2
        exact ⟨⟨x / 10, c :: acc, by go_num, rfl, by omega, HX2, hbel.alloc hbel.size _⟩, by simp [intOf]; omega⟩
      · have e0 : x = 0 := by omega
        subst e0
        have HE : Hid (acc = D) := by have := HX.out; rw [digs_zero] at this; exact this
        have hct := cons_text 109 acc
        have hfin : Ending.returned (.string ((⟨#[109]⟩ : ByteArray) ++ ⟨acc.toArray⟩)) = .returned (.string ⟨(109 :: D).toArray⟩) := by rw [hct, HE.out]
        have HF : Hid _ := hfin
        clear hct hfin HX
        generalize (⟨acc.toArray⟩ : ByteArray) = ab at *
        go_wp2
        go_ret
        exact ⟨HF.out, hbel⟩
end Go.Proofs.YtnfidmjplhmblaaGreatDoor.Mark

/- What the program's join answers: the two texts in one, in new memory. -/
namespace Go.Proofs.YtnfidmjplhmblaaGreatDoor.Join
open Go.RowKit Go.Proofs.YtnfidmjplhmblaaGreatDoor.Mem
theorem info8 : (Tryz.prog.info? 5).map (fun i => (i.zero, i.size, i.bytes)) = some (some (.int .u8 0), 1, 1) := by kernel_rfl
theorem under : Tryz.prog.underlying 77 = some (.slice 5) := by kernel_rfl
theorem underS : Tryz.prog.underlying 9 = some .string := by kernel_rfl
theorem under8 : Tryz.prog.underlying 5 = some (.int .u8) := by kernel_rfl

set_option maxHeartbeats 400000 in
theorem join_any (a b : ByteArray) (w : World) (ha : a.size ≤ 10000000) (hb : b.size ≤ 10000000) :
    Calls Tryz.prog 71 #[.string a, .string b] w fun e w' => e = .returned (.string (a ++ b)) ∧ Below w.heap.size w w' := by
  obtain ⟨W1, hmk, hg1, hb1, hz1⟩ := make_bytes (P := Tryz.prog) 77 5 under info8 (a.size + b.size) (by omega) w
  obtain ⟨W2, hc2, hg2, hb2, hz2⟩ := copy_str (P := Tryz.prog) 77 9 3 5 under info8 W1 w.heap.size 0 (a.size + b.size) (a.size + b.size) a _ hg1 (by omega) (by simp)
  have hla : (Lib.byteCells a.data.toList).length = a.size := by simp [Lib.byteCells]
  have hlb : (Lib.byteCells b.data.toList).length = b.size := by simp [Lib.byteCells]
  by_cases hbe : b.size = 0
  · obtain rfl : b = ByteArray.empty := by
      apply ByteArray.ext; apply Array.ext' ; exact List.eq_nil_of_length_eq_zero hbe
    have hce := copy_empty (P := Tryz.prog) 77 9 3 5 under info8
    have hcv := text_of_row (P := Tryz.prog) 77 9 5 under under8 underS W2 w.heap.size a.size a.size a.data.toList [] (bytes_data a) (by simpa using hg2)
    have hE : Hid ((⟨a.data.toList.toArray⟩ : ByteArray) = a ++ ByteArray.empty) := by show _ = _; rw [← append_eq]; simp
    have HB : Hid (Below w.heap.size w W2) := hb1.trans hb2
    simp at hmk hc2
    clear hg1 hg2 hb1 hb2 hla hlb hbe
    go_enter Tryz.func71, Tryz.ntmps71
    go_wp2
    go_ret
    exact ⟨by simp, HB.out⟩
  · obtain ⟨W3, hc3, hg3, hb3, hz3⟩ := copy_str (P := Tryz.prog) 77 9 3 5 under info8 W2 w.heap.size a.size b.size b.size b _ hg2 (by omega) (by simp [hla])
    have hcv := text_of_row (P := Tryz.prog) 77 9 5 under under8 underS W3 w.heap.size (a.size + b.size) (a.size + b.size) (a.data.toList ++ b.data.toList) [] (by simp) (by
      have e : List.take a.size (List.take 0 (List.replicate (a.size + b.size) (Value.int .u8 0)) ++ Lib.byteCells a.data.toList ++ List.drop (0 + a.size) (List.replicate (a.size + b.size) (Value.int .u8 0))) = Lib.byteCells a.data.toList := by
        simp [hla]
      rw [e] at hg3
      have e2 : List.drop (a.size + b.size) (List.map (fun b : UInt8 => Value.int IntKind.u8 (b.toNat : Int)) a.data.toList) = [] := List.drop_eq_nil_of_le (by simp)
      simpa [List.drop_append, hla, Lib.byteCells, e2] using hg3)
    have HE : Hid ((⟨(a.data.toList ++ b.data.toList).toArray⟩ : ByteArray) = a ++ b) := append_eq a b
    have HB : Hid (Below w.heap.size w W3) := (hb1.trans hb2).trans hb3
    generalize (⟨(a.data.toList ++ b.data.toList).toArray⟩ : ByteArray) = ab at *
    simp only [Int.natCast_add] at hmk
    clear hg1 hg2 hb1 hb2 hla hlb hg3 hb3
    have hbn : ¬ b = ByteArray.empty := by rintro rfl; exact hbe rfl
    go_enter Tryz.func71, Tryz.ntmps71
    go_wp2
    go_ret
    have he := HE.out
    subst he
    exact ⟨rfl, HB.out⟩
end Go.Proofs.YtnfidmjplhmblaaGreatDoor.Join
