/- What the model tells beside a code of an area. -/
import Derived.Test.YtnfidmjplhmblaaGreatDoorTextsH
namespace Go.Proofs.YtnfidmjplhmblaaGreatDoor.Disk
open Go.RowKit Go.Proofs.YtnfidmjplhmblaaGreatDoor.Mem Go.Proofs.YtnfidmjplhmblaaGreatDoor.Harn Go.Proofs.YtnfidmjplhmblaaGreatDoor.DiskP

theorem illA_any (c : Int) (w : World) : Calls Tryz.prog 15 #[.int .i64 c] w fun e w' => e = .returned (outA (.slice none 0 0) (.slice none 0 0) ByteArray.empty 0 c) ∧ Below w.heap.size w w' := by
  go_enter Tryz.func15, Tryz.ntmps15
  go_wp2_with fail
  refine bodyPost_ret (v := outA (.slice none 0 0) (.slice none 0 0) ByteArray.empty 0 c) (by simp [results, Tryz.results15, go_sem]; rfl) rfl ⟨rfl, ?_⟩
  first
    | exact (Below.refl _ _).alloc (Nat.le_refl _) _
    | exact (((((bself _).setCell (p := ⟨w.heap.size, 0, none⟩) (by simp) _).setCell (p := ⟨w.heap.size, 1, none⟩) (by simp) _).setCell (p := ⟨w.heap.size, 2, none⟩) (by simp) _).setCell (p := ⟨w.heap.size, 3, none⟩) (by simp) _).setCell (p := ⟨w.heap.size, 4, none⟩) (by simp) _
theorem boxA_set4 {W : World} {b : Nat} {vs vp : Value} {t : ByteArray} {c : Int} (h : Box4 W b) : BoxO ((((W.setCell ⟨b, 0, none⟩ vs).setCell ⟨b, 1, none⟩ vp).setCell ⟨b, 2, none⟩ (.string t)).setCell ⟨b, 3, none⟩ (.int .i64 c)) b vs vp t c := row_set (row_set (row_set (row_set h 0 vs) 1 vp) 2 (.string t)) 3 (.int .i64 c)
theorem onlyA_set4 {W : World} {b : Nat} {v0 v1 v2 v3 : Value} : Only (fun k => k = b) W ((((W.setCell ⟨b, 0, none⟩ v0).setCell ⟨b, 1, none⟩ v1).setCell ⟨b, 2, none⟩ v2).setCell ⟨b, 3, none⟩ v3) := (onlyA_set2.trans (onlyA_set1 _ b 2 v2)).trans (onlyA_set1 _ b 3 v3)
theorem cellA_far4 {W : World} {b k o : Nat} {v0 v1 v2 v3 : Value} (h : b ≠ k) (hk : k < W.heap.size) : ((((W.setCell ⟨b, 0, none⟩ v0).setCell ⟨b, 1, none⟩ v1).setCell ⟨b, 2, none⟩ v2).setCell ⟨b, 3, none⟩ v3).cell? ⟨k, o, none⟩ = W.cell? ⟨k, o, none⟩ := onlyA_set4.cell (a := ⟨k, o, none⟩) hk (fun e => h e.symm)
end Go.Proofs.YtnfidmjplhmblaaGreatDoor.Disk
