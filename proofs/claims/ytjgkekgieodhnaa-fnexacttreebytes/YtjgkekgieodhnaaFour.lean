/- What the two functions answer that lay a sum down in four bytes. -/
import Derived.Test.YtjgkekgieodhnaaRows
import Derived.Test.YtjgkekgieodhnaaMemLaws
import Derived.Test.YtjgkekgieodhnaaJoin
namespace Go.Proofs.Ytjgkekgieodhnaa.Four
open Go.RowKit Go.Proofs.Ytjgkekgieodhnaa.Mem

/-- The four bytes of a number, the lowest first. -/
def fourB (n : Nat) : ByteArray := ⟨#[UInt8.ofNat n, UInt8.ofNat (n / 256), UInt8.ofNat (n / 65536), UInt8.ofNat (n / 16777216)]⟩

theorem size_fourB (n : Nat) : (fourB n).size = 4 := rfl

theorem ofNat_mod (n : Nat) : UInt8.ofNat (n % 256) = UInt8.ofNat n := by
  apply UInt8.toNat.inj; simp

theorem text4 (w : World) (x0 x1 x2 x3 : Int) (T : TypeId) :
    (convert 81 9 (.slice (some ⟨w.heap.size, 0, none⟩) 4 4)).run Try.prog (w.alloc (.cells #[.int .u8 x0, .int .u8 x1, .int .u8 x2, .int .u8 x3] T)) =
      .ok (.string ⟨#[UInt8.ofNat x0.toNat, UInt8.ofNat x1.toNat, UInt8.ofNat x2.toNat, UInt8.ofNat x3.toNat]⟩) (w.alloc (.cells #[.int .u8 x0, .int .u8 x1, .int .u8 x2, .int .u8 x3] T)) := by
  rw [run_convert_bytes_string _ _ _ _ _ _ _ Join.under Join.under8 Join.underS]
  have hl := run_loadCells_list (P := Try.prog) (w.alloc (.cells #[.int .u8 x0, .int .u8 x1, .int .u8 x2, .int .u8 x3] T)) ⟨w.heap.size, 0, none⟩ ([x0, x1, x2, x3].map (Value.int .u8)) (fun j v hj => by
    have ha : (⟨w.heap.size, 0, none⟩ : Addr).add j = ⟨w.heap.size, j, none⟩ := by unfold Addr.add; split <;> simp_all
    rw [ha, World.cell?_alloc_mark, ← hj]
    simp)
  rw [run_bytesToString _ _ 4 4 [x0, x1, x2, x3] hl]
  rfl

theorem four_eq (n : Nat) : (⟨#[UInt8.ofNat (n % 256), UInt8.ofNat (n / 256 % 256), UInt8.ofNat (n / 65536 % 256), UInt8.ofNat (n / 16777216)]⟩ : ByteArray) = fourB n := by
  rw [ofNat_mod, ofNat_mod, ofNat_mod]; rfl

theorem ret_str {a b : ByteArray} (h : a = b) : Ending.returned (.string a) = .returned (.string b) := by rw [h]

end Go.Proofs.Ytjgkekgieodhnaa.Four
