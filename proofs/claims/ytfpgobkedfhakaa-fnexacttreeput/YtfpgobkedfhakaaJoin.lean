/- What the program's join answers: the two texts in one, in new memory. -/
import Derived.Test.YtfpgobkedfhakaaRows
import Derived.Test.YtfpgobkedfhakaaMemLaws
namespace Go.Proofs.Ytfpgobkedfhakaa.Join
open Go.RowKit Go.Proofs.Ytfpgobkedfhakaa.Mem
theorem info8 : (Try.prog.info? 5).map (fun i => (i.zero, i.size, i.bytes)) = some (some (.int .u8 0), 1, 1) := by kernel_rfl
theorem under : Try.prog.underlying 121 = some (.slice 5) := by kernel_rfl
theorem underS : Try.prog.underlying 9 = some .string := by kernel_rfl
theorem under8 : Try.prog.underlying 5 = some (.int .u8) := by kernel_rfl

set_option maxHeartbeats 400000 in
theorem join_any (a b : ByteArray) (w : World) (ha : a.size ≤ 10000000) (hb : b.size ≤ 10000000) :
    Calls Try.prog 63 #[.string a, .string b] w fun e w' => e = .returned (.string (a ++ b)) ∧ Below w.heap.size w w' := by
  obtain ⟨W1, hmk, hg1, hb1, hz1⟩ := make_bytes (P := Try.prog) 121 5 under info8 (a.size + b.size) (by omega) w
  obtain ⟨W2, hc2, hg2, hb2, hz2⟩ := copy_str (P := Try.prog) 121 9 3 5 under info8 W1 w.heap.size 0 (a.size + b.size) (a.size + b.size) a _ hg1 (by omega) (by simp)
  have hla : (Lib.byteCells a.data.toList).length = a.size := by simp [Lib.byteCells]
  have hlb : (Lib.byteCells b.data.toList).length = b.size := by simp [Lib.byteCells]
  by_cases hbe : b.size = 0
  · obtain rfl : b = ByteArray.empty := by
      apply ByteArray.ext; apply Array.ext' ; exact List.eq_nil_of_length_eq_zero hbe
    have hce := copy_empty (P := Try.prog) 121 9 3 5 under info8
    have hcv := text_of_row (P := Try.prog) 121 9 5 under under8 underS W2 w.heap.size a.size a.size a.data.toList [] (bytes_data a) (by simpa using hg2)
    have hE : Hid ((⟨a.data.toList.toArray⟩ : ByteArray) = a ++ ByteArray.empty) := by show _ = _; rw [← append_eq]; simp
    have HB : Hid (Below w.heap.size w W2) := hb1.trans hb2
    simp at hmk hc2
    clear hg1 hg2 hb1 hb2 hla hlb hbe
    go_enter Try.func63, Try.ntmps63
    go_wp2
    go_ret
    exact ⟨by simp, HB.out⟩
  · obtain ⟨W3, hc3, hg3, hb3, hz3⟩ := copy_str (P := Try.prog) 121 9 3 5 under info8 W2 w.heap.size a.size b.size b.size b _ hg2 (by omega) (by simp [hla])
    have hcv := text_of_row (P := Try.prog) 121 9 5 under under8 underS W3 w.heap.size (a.size + b.size) (a.size + b.size) (a.data.toList ++ b.data.toList) [] (by simp) (by
      have e : List.take a.size (List.take 0 (List.replicate (a.size + b.size) (Value.int .u8 0)) ++ Lib.byteCells a.data.toList ++ List.drop (0 + a.size) (List.replicate (a.size + b.size) (Value.int .u8 0))) = Lib.byteCells a.data.toList := by
        simp [hla]
      rw [e] at hg3
      have e2 : List.drop (a.size + b.size) (List.map (fun b : UInt8 => Value.int IntKind.u8 (b.toNat : Int)) a.data.toList) = [] := List.drop_eq_nil_of_le (by simp)
      simpa [List.drop_append, hla, Lib.byteCells, e2] using hg3)
    have HE : Hid ((⟨(a.data.toList ++ b.data.toList).toArray⟩ : ByteArray) = a ++ b) := append_eq a b
    have HB : Hid (Below w.heap.size w W3) := (hb1.trans hb2).trans hb3
    generalize (⟨(a.data.toList ++ b.data.toList).toArray⟩ : ByteArray) = ab at *
    simp only [Int.natCast_add] at hmk
    clear hg1 hg2 hb1 hb2 hla hlb hg3 hb3
    have hbn : ¬ b = ByteArray.empty := by rintro rfl; exact hbe rfl
    go_enter Try.func63, Try.ntmps63
    go_wp2
    go_ret
    have he := HE.out
    subst he
    exact ⟨rfl, HB.out⟩
end Go.Proofs.Ytfpgobkedfhakaa.Join
