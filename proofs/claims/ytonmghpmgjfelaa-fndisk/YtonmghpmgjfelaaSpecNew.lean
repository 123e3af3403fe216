/- What the model's DiskNew and l03Ill answer. -/
import Derived.Test.YtonmghpmgjfelaaSpecCopy
import Derived.Test.YtonmghpmgjfelaaDiskOuts
import Derived.Test.YtonmghpmgjfelaaBoxes
import Derived.Test.YtonmghpmgjfelaaAppOne
namespace Go.Proofs.Ytonmghpmgjfelaa.Disk
open Go.RowKit Go.Proofs.Ytonmghpmgjfelaa.Mem Go.Proofs.Ytonmghpmgjfelaa.Harn Go.Proofs.Ytonmghpmgjfelaa.DiskP

/-- A call told o; of the disk's pending writes it is known besides that they own their row. -/
def ToldP (w : World) (o : Out) (e : Ending) (w' : World) : Prop := ∃ us up, e = .returned (outV us up o.t o.c) ∧ Own w' w.heap.size w'.heap.size us up o.ls o.lp ∧ Below w.heap.size w w' ∧ OwnP w' w.heap.size up o.lp ∧ (o.lp.length = 0 → up = .slice none 0 0)
def ToldDP (w : World) (ls : List ByteArray) (lp : List (Int × ByteArray)) (e : Ending) (w' : World) : Prop := ∃ us up, e = .returned (.agg #[us, up]) ∧ Own w' w.heap.size w'.heap.size us up ls lp ∧ Below w.heap.size w w' ∧ OwnP w' w.heap.size up lp ∧ (lp.length = 0 → up = .slice none 0 0)
theorem ToldP.told {w : World} {o : Out} {e : Ending} {w' : World} (h : ToldP w o e w') : Told w o e w' := by
  obtain ⟨us, up, h1, h2, h3, _⟩ := h
  exact ⟨us, up, h1, h2, h3⟩
theorem ToldDP.told {w : World} {ls : List ByteArray} {lp : List (Int × ByteArray)} {e : Ending} {w' : World} (h : ToldDP w ls lp e w') : ToldD w ls lp e w' := by
  obtain ⟨us, up, h1, h2, h3, _⟩ := h
  exact ⟨us, up, h1, h2, h3⟩

theorem ill_any (c : Int) (w : World) : Calls Try.prog 35 #[.int .i64 c] w fun e w' => e = .returned (outV (.slice none 0 0) (.slice none 0 0) ByteArray.empty c) ∧ Below w.heap.size w w' := by
  go_enter Try.func35, Try.ntmps35
  go_wp2_with fail
  refine bodyPost_ret (v := outV (.slice none 0 0) (.slice none 0 0) ByteArray.empty c) (by simp [results, Try.results35, go_sem]; rfl) rfl ⟨rfl, ?_⟩
  repeat' (first | exact (Below.refl _ _).alloc (Nat.le_refl _) _ | refine Below.setCell ?_ (by simp) _)

set_option maxRecDepth 100000 in
set_option maxHeartbeats 1000000 in
theorem specNew_own (n : Int) (w : World) : Calls Try.prog 17 #[.int .i64 n] w fun e w' => ToldDP w (newD n) [] e w' := by
  by_cases h : 1 ≤ n ∧ n ≤ 64
  · obtain ⟨k, rfl⟩ := Int.eq_ofNat_of_zero_le (show 0 ≤ n by omega)
    have KY : Hid (∀ W, Calls Try.prog 36 #[.int .i64 (k : Int), .int .i64 1, .int .i64 64] W fun e w' => e = .returned (.bool true) ∧ w' = W) := fun W => is_yes _ _ _ W h.1 h.2
    rw [newD_yes (by omega) (by omega), Int.toNat_natCast]
    obtain ⟨W1, hmk, hr1, hb1, hz1⟩ := make_strs k (by omega) (w.alloc (.cells #[.slice none 0 0, .slice none 0 0] 26))
    simp at hmk hz1 hr1
    have hrow : HasRow W1 w.heap.size [Value.slice none 0 0, Value.slice none 0 0] 26 := Sha.row_below (Sha.row_new w [Value.slice none 0 0, Value.slice none 0 0] 26) hb1 (by simp)
    have q1 : W1.cell? ⟨w.heap.size, 0, none⟩ = some (.slice none 0 0) := Mem.cell_of_row hrow 0
    have q2 : W1.cell? ⟨w.heap.size, 1, none⟩ = some (.slice none 0 0) := Mem.cell_of_row hrow 1
    have q3 := Mem.frozen_of_row hrow
    have HR : Hid (StrsAt W1 (w.heap.size + 1) 0 (List.replicate k ByteArray.empty)) := strs_replicate hr1
    have HB : Hid (Below w.heap.size w W1) := ((Below.refl _ _).alloc (Nat.le_refl _) _).trans (hb1.mono (by simp))
    have HZ : Hid (W1.heap.size = w.heap.size + 1 + 1) := hz1
    clear hr1 hb1 hz1 hrow
    obtain ⟨h1, h2⟩ := h
    go_enter Try.func17, Try.ntmps17
    go_wp2_with (go_at_call 36; refine (KY.out _).mono ?_; rintro e w' ⟨rfl, rfl⟩)
    refine bodyPost_ret (v := .agg #[.slice (some ⟨w.heap.size + 1, 0, none⟩) (List.replicate k ByteArray.empty).length k, .slice none 0 0]) (by simp [results, Try.results17, go_sem, q1, q2]) rfl ⟨_, _, rfl, own_mk0 ?_ (by omega) (by simp [HZ.out]), ?_, ownP_nil _ _, fun _ => rfl⟩
    · repeat' (first | exact HR.out | refine StrsAt.other ?_ (by simp) _)
    · repeat' (first | exact HB.out | refine Below.setCell ?_ (by simp) _)
  · have KN : Hid (∀ W, Calls Try.prog 36 #[.int .i64 n, .int .i64 1, .int .i64 64] W fun e w' => e = .returned (.bool false) ∧ w' = W) := fun W => is_no _ _ _ W (by omega)
    rw [newD_no (by omega)]
    clear h
    go_enter Try.func17, Try.ntmps17
    go_wp2_with (go_at_call 36; refine (KN.out _).mono ?_; rintro e w' ⟨rfl, rfl⟩)
    refine bodyPost_ret (v := .agg #[.slice none 0 0, .slice none 0 0]) (by simp [results, Try.results17, go_sem]) rfl ⟨_, _, rfl, own_zero _ _ _, ?_, ownP_nil _ _, fun _ => rfl⟩
    repeat' (first | exact (Below.refl _ _).alloc (Nat.le_refl _) _ | refine Below.setCell ?_ (by simp) _)
theorem specNew_any (n : Int) (w : World) : Calls Try.prog 17 #[.int .i64 n] w fun e w' => ToldD w (newD n) [] e w' := (specNew_own n w).mono fun _ _ h => h.told
end Go.Proofs.Ytonmghpmgjfelaa.Disk
