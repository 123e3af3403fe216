/- What the model's small functions of chapter 3 answer, by contracts. -/
import Derived.Test.YtjgkekgieodhnabDoorRows
import Derived.Test.YtjgkekgieodhnabDoorShaWords
import Derived.Below
import Derived.WalkSpells
namespace Go.Proofs.YtjgkekgieodhnabDoor.Sha
open Go.RowKit

theorem ret_int {k : IntKind} {a b : Int} (h : a = b) : Ending.returned (.int k a) = .returned (.int k b) := by rw [h]

theorem specTurn_any (x k : Nat) (w : World) (hx : x < 4294967296) (hk : 1 ≤ k) (hk2 : k ≤ 31) :
    Calls Tryd.prog 36 #[.int .u32 x, .int .u64 k] w fun e w' => e = .returned (.int .u32 (rotr k x : Nat)) ∧ w = w' := by
  have HB : Hid (bits .or .u32 ((x : Int) / 2 ^ k) ((x : Int) * 2 ^ (32 - k) % 4294967296) = (rotr k x : Int)) := turn_bits hx
  go_enter Tryd.func36, Tryd.ntmps36
  go_wp2
  go_ret
  exact ⟨ret_int HB.out, rfl⟩


theorem specKeys_any (w : World) :
    Calls Tryd.prog 37 #[] w fun e w' => e = .returned (.slice (some ⟨w.heap.size, 0, none⟩) 64 64) ∧ w' = w.alloc (.cells (u32s keys).toArray 59) := by
  go_enter Tryd.func37, Tryd.ntmps37
  go_wp2
  go_ret
  refine ⟨rfl, congrArg (fun c => w.alloc (.cells c 59)) ?_⟩
  simp [u32s, keys]

theorem specStart_any (w : World) :
    Calls Tryd.prog 21 #[] w fun e w' => e = .returned (.slice (some ⟨w.heap.size, 0, none⟩) 8 8) ∧ w' = w.alloc (.cells (i64s start).toArray 2) := by
  go_enter Tryd.func21, Tryd.ntmps21
  go_wp2
  go_ret
  refine ⟨rfl, congrArg (fun c => w.alloc (.cells c 2)) ?_⟩
  simp [i64s, start]
end Go.Proofs.YtjgkekgieodhnabDoor.Sha
