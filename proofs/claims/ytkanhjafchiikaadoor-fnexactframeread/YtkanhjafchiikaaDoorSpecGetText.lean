/- What the model's GetText answers, given what its GetNum does. -/
import Derived.Test.YtkanhjafchiikaaDoorTextsC
import Derived.BigRegion
import Derived.WalkSpells
namespace Go.Proofs.YtkanhjafchiikaaDoor.GetText
open Go.RowKit Go.Proofs.YtkanhjafchiikaaDoor.GetNum

set_option maxRecDepth 100000 in
set_option maxHeartbeats 1000000 in
theorem spec_code (s : ByteArray) (a n p c : Int) (w : World) (hc : c ≠ 0) (K : ∀ w, Gets 17 s a n p c w) : Texts 18 s a ByteArray.empty 0 c w := by
  have HK : Hid _ := K
  clear K
  have hcb : (c != 0) = true := by rw [bne_iff_ne]; exact hc
  clear hc
  unfold Texts
  go_enter Tryd.func18, Tryd.ntmps18
  go_wp2_with (first | (go_at_call 17; refine (HK.out _).mono ?_; rintro e w1 ⟨rfl, hb1⟩; obtain ⟨hcc, hff⟩ := bcell hb1; have hsz := hb1.size; simp at hcc hff hsz; have hlt : w.heap.size < w1.heap.size := by omega))
  refine bodyPost_ret (v := .agg #[.string ByteArray.empty, .int .i64 0, .int .i64 c]) ?_ rfl ⟨rfl, ?_⟩
  · simp [results, Tryd.results18, go_sem, hcc, hlt]
    rfl
  · have hB1 : Below w.heap.size w w1 := bstep (balloc (Below.refl _ _) _) hb1
    repeat (first | exact hB1 | refine Below.drew ?_ | refine bset ?_ _ _ | refine Below.alloc ?_ (by simp; omega) _)

set_option maxRecDepth 100000 in
set_option maxHeartbeats 1000000 in
theorem spec_syntax (s : ByteArray) (a n p : Int) (w : World) (hn : n < 0 ∨ 8000 < n) (K : ∀ w, Gets 17 s a n p 0 w) : Texts 18 s a ByteArray.empty 0 3 w := by
  have HK : Hid _ := K
  clear K
  unfold Texts
  rcases hn with hn | hn
  all_goals
    go_enter Tryd.func18, Tryd.ntmps18
    go_wp2_with (first | (go_at_call 17; refine (HK.out _).mono ?_; rintro e w1 ⟨rfl, hb1⟩; obtain ⟨hcc, hff⟩ := bcell hb1; have hsz := hb1.size; simp at hcc hff hsz; have hlt : w.heap.size < w1.heap.size := by omega))
    refine bodyPost_ret (v := .agg #[.string ByteArray.empty, .int .i64 0, .int .i64 3]) ?_ rfl ⟨rfl, ?_⟩
    · simp [results, Tryd.results18, go_sem, hcc, hlt]
      rfl
    · have hB1 : Below w.heap.size w w1 := bstep (balloc (Below.refl _ _) _) hb1
      repeat (first | exact hB1 | refine Below.drew ?_ | refine bset ?_ _ _ | refine Below.alloc ?_ (by simp; omega) _)

set_option maxRecDepth 100000 in
set_option maxHeartbeats 1000000 in
theorem spec_short (s : ByteArray) (a : Int) (n p : Nat) (w : World) (hs : (s.size : Int) ≤ 8000) (hn : (n : Int) ≤ 8000) (hq : (p : Int) ≤ s.size) (hp : (s.size : Int) < (p : Int) + (n : Int)) (K : ∀ w, Gets 17 s a n p 0 w) : Texts 18 s a ByteArray.empty 0 4 w := by
  have HK : Hid _ := K
  clear K
  have hle : (s.size : Int) - (n : Int) < (p : Int) := by omega
  unfold Texts
  go_enter Tryd.func18, Tryd.ntmps18
  go_wp2_with (first | (go_at_call 17; refine (HK.out _).mono ?_; rintro e w1 ⟨rfl, hb1⟩; obtain ⟨hcc, hff⟩ := bcell hb1; have hsz := hb1.size; simp at hcc hff hsz; have hlt : w.heap.size < w1.heap.size := by omega))
  refine bodyPost_ret (v := .agg #[.string ByteArray.empty, .int .i64 0, .int .i64 4]) ?_ rfl ⟨rfl, ?_⟩
  · simp [results, Tryd.results18, go_sem, hcc, hlt]
    rfl
  · have hB1 : Below w.heap.size w w1 := bstep (balloc (Below.refl _ _) _) hb1
    repeat (first | exact hB1 | refine Below.drew ?_ | refine bset ?_ _ _ | refine Below.alloc ?_ (by simp; omega) _)

set_option maxRecDepth 100000 in
set_option maxHeartbeats 1000000 in
theorem spec_ok (s : ByteArray) (a : Int) (n p : Nat) (w : World) (hs : (s.size : Int) ≤ 8000) (hn : (n : Int) ≤ 8000) (hp : (p : Int) + (n : Int) ≤ s.size) (K : ∀ w, Gets 17 s a n p 0 w) :
    Texts 18 s a (s.extract p (p + n)) ((p + n : Nat) : Int) 0 w := by
  have HK : Hid _ := K
  clear K
  have hle : (p : Int) ≤ (s.size : Int) - (n : Int) := by omega
  unfold Texts
  go_enter Tryd.func18, Tryd.ntmps18
  go_wp2_with (first | (go_at_call 17; refine (HK.out _).mono ?_; rintro e w1 ⟨rfl, hb1⟩; obtain ⟨hcc, hff⟩ := bcell hb1; have hsz := hb1.size; simp at hcc hff hsz; have hlt : w.heap.size < w1.heap.size := by omega))
  go_region
  go_wp2
  refine bodyPost_ret (v := .agg #[.string (s.extract p (p + n)), .int .i64 ((p + n : Nat) : Int), .int .i64 0]) ?_ rfl ⟨rfl, ?_⟩
  · simp [results, Tryd.results18, go_sem, hcc, hlt]
  · have hB1 : Below w.heap.size w w1 := bstep (balloc (Below.refl _ _) _) hb1
    repeat (first | exact hB1 | refine Below.drew ?_ | refine bset ?_ _ _ | refine Below.alloc ?_ (by simp; omega) _)

end Go.Proofs.YtkanhjafchiikaaDoor.GetText
