/- What the model's small functions of chapter 3 answer, by contracts. -/
import Derived.Test.YthkgncgaemoppaaDoorRows
import Derived.Test.YthkgncgaemoppaaDoorShaWords
import Derived.Below
import Derived.WalkSpells
namespace Go.Proofs.YthkgncgaemoppaaDoor.Sha
open Go.RowKit

theorem ret_int {k : IntKind} {a b : Int} (h : a = b) : Ending.returned (.int k a) = .returned (.int k b) := by rw [h]

theorem specTurn_any (x k : Nat) (w : World) (hx : x < 4294967296) (hk : 1 ≤ k) (hk2 : k ≤ 31) :
    Calls Tryd.prog 52 #[.int .u32 x, .int .u64 k] w fun e w' => e = .returned (.int .u32 (rotr k x : Nat)) ∧ w = w' := by
  have HB : Hid (bits .or .u32 ((x : Int) / 2 ^ k) ((x : Int) * 2 ^ (32 - k) % 4294967296) = (rotr k x : Int)) := turn_bits hx
  go_enter Tryd.func52, Tryd.ntmps52
  go_wp2
  go_ret
  exact ⟨ret_int HB.out, rfl⟩


theorem specKeys_any (w : World) :
    Calls Tryd.prog 53 #[] w fun e w' => e = .returned (.slice (some ⟨w.heap.size, 0, none⟩) 64 64) ∧ w' = w.alloc (.cells (u32s keys).toArray 64) := by
  go_enter Tryd.func53, Tryd.ntmps53
  go_wp2
  go_ret
  refine ⟨rfl, congrArg (fun c => w.alloc (.cells c 64)) ?_⟩
  simp [u32s, keys]

theorem specStart_any (w : World) :
    Calls Tryd.prog 43 #[] w fun e w' => e = .returned (.slice (some ⟨w.heap.size, 0, none⟩) 8 8) ∧ w' = w.alloc (.cells (i64s start).toArray 2) := by
  go_enter Tryd.func43, Tryd.ntmps43
  go_wp2
  go_ret
  refine ⟨rfl, congrArg (fun c => w.alloc (.cells c 2)) ?_⟩
  simp [i64s, start]
end Go.Proofs.YthkgncgaemoppaaDoor.Sha
