/- What the program's GetText answers, given what its GetNum does. -/
import Derived.Test.YtkanhjafchiikaaDoorTextsC
import Derived.Test.YtkanhjafchiikaaDoorTextsB
import Derived.WalkSpells
namespace Go.Proofs.YtkanhjafchiikaaDoor.GetText
open Go.RowKit Go.Proofs.YtkanhjafchiikaaDoor.GetNum

set_option maxRecDepth 100000 in
set_option maxHeartbeats 1000000 in
theorem impl_code (s : ByteArray) (a n p c : Int) (w : World) (hL : Laid w) (hc : c ≠ 0) (K : ∀ w, Laid w → Gets 24 s a n p c w) : Texts 25 s a ByteArray.empty 0 c w := by
  have HK : Hid _ := K
  clear K
  have HL : Hid (Laid w) := hL
  clear hL
  have hcb : (c != 0) = true := by rw [bne_iff_ne]; exact hc
  clear hc
  unfold Texts
  go_enter Tryd.func25, Tryd.ntmps25
  go_wp2_with (first | (go_at_call 24; refine (HK.out _ (laid_below HL.out (balloc (Below.refl _ _) _))).mono ?_; rintro e w1 ⟨rfl, hb1⟩; obtain ⟨hcc, hff⟩ := bcell hb1; have hsz := hb1.size; simp at hcc hff hsz; have hlt : w.heap.size < w1.heap.size := by omega))
  refine bodyPost_ret (v := .agg #[.string ByteArray.empty, .int .i64 0, .int .i64 c]) ?_ rfl ⟨rfl, ?_⟩
  · simp [results, Tryd.results25, go_sem, hcc, hlt]
    rfl
  · have hB1 : Below w.heap.size w w1 := bstep (balloc (Below.refl _ _) _) hb1
    repeat (first | exact hB1 | refine Below.drew ?_ | refine bset ?_ _ _ | refine Below.alloc ?_ (by simp; omega) _)

set_option maxRecDepth 100000 in
set_option maxHeartbeats 1000000 in
theorem impl_syntax (s : ByteArray) (a n p : Int) (w : World) (hL : Laid w) (hn : n < 0 ∨ 8000 < n) (K : ∀ w, Laid w → Gets 24 s a n p 0 w) : Texts 25 s a ByteArray.empty 0 3 w := by
  have HK : Hid _ := K
  clear K
  have HL : Hid (Laid w) := hL
  clear hL
  unfold Texts
  rcases hn with hn | hn
  all_goals
    go_enter Tryd.func25, Tryd.ntmps25
    go_wp2_with (first | (go_at_call 24; refine (HK.out _ (laid_below HL.out (balloc (Below.refl _ _) _))).mono ?_; rintro e w1 ⟨rfl, hb1⟩; obtain ⟨hcc, hff⟩ := bcell hb1; have hsz := hb1.size; simp at hcc hff hsz; have hlt : w.heap.size < w1.heap.size := by omega))
    refine bodyPost_ret (v := .agg #[.string ByteArray.empty, .int .i64 0, .int .i64 3]) ?_ rfl ⟨rfl, ?_⟩
    · simp [results, Tryd.results25, go_sem, hcc, hlt]
      rfl
    · have hB1 : Below w.heap.size w w1 := bstep (balloc (Below.refl _ _) _) hb1
      repeat (first | exact hB1 | refine Below.drew ?_ | refine bset ?_ _ _ | refine Below.alloc ?_ (by simp; omega) _)

set_option maxRecDepth 100000 in
set_option maxHeartbeats 1000000 in
theorem impl_short (s : ByteArray) (a : Int) (n p : Nat) (w : World) (hL : Laid w) (hs : (s.size : Int) ≤ 8000) (hn : (n : Int) ≤ 8000) (hq : (p : Int) ≤ s.size) (hp : (s.size : Int) < (p : Int) + (n : Int)) (K : ∀ w, Laid w → Gets 24 s a n p 0 w) : Texts 25 s a ByteArray.empty 0 4 w := by
  have HK : Hid _ := K
  clear K
  have HL : Hid (Laid w) := hL
  clear hL
  unfold Texts
  go_enter Tryd.func25, Tryd.ntmps25
  go_wp2_with (first | (go_at_call 24; refine (HK.out _ (laid_below HL.out (balloc (Below.refl _ _) _))).mono ?_; rintro e w1 ⟨rfl, hb1⟩; obtain ⟨hcc, hff⟩ := bcell hb1; have hsz := hb1.size; simp at hcc hff hsz; have hlt : w.heap.size < w1.heap.size := by omega))
  refine bodyPost_ret (v := .agg #[.string ByteArray.empty, .int .i64 0, .int .i64 4]) ?_ rfl ⟨rfl, ?_⟩
  · simp [results, Tryd.results25, go_sem, hcc, hlt]
    rfl
  · have hB1 : Below w.heap.size w w1 := bstep (balloc (Below.refl _ _) _) hb1
    repeat (first | exact hB1 | refine Below.drew ?_ | refine bset ?_ _ _ | refine Below.alloc ?_ (by simp; omega) _)

theorem empty_app (t : ByteArray) : (⟨#[]⟩ : ByteArray) ++ t = t := by
  apply ByteArray.ext; simp

set_option maxRecDepth 100000 in
set_option maxHeartbeats 1000000 in
theorem impl_ok (s : ByteArray) (a : Int) (n p : Nat) (w : World) (hL : Laid w) (hs : (s.size : Int) ≤ 8000) (hn : (n : Int) ≤ 8000) (hp : (p : Int) + (n : Int) ≤ s.size) (K : ∀ w, Laid w → Gets 24 s a n p 0 w) :
    Texts 25 s a (s.extract p (p + n)) ((p + n : Nat) : Int) 0 w := by
  have HK : Hid _ := K
  clear K
  have HL : Hid (Laid w) := hL
  clear hL
  have he := empty_app (s.extract p (p + n))
  have hz : (s.extract p (p + n)).size ≤ 10000000 := by simp [ByteArray.size_extract]; omega
  unfold Texts
  go_enter Tryd.func25, Tryd.ntmps25
  go_wp2_with (first | (go_at_call 24; refine (HK.out _ (laid_below HL.out (balloc (Below.refl _ _) _))).mono ?_; rintro e w1 ⟨rfl, hb1⟩; obtain ⟨hcc, hff⟩ := bcell hb1; have hsz := hb1.size; simp at hcc hff hsz; have hlt : w.heap.size < w1.heap.size := by omega))
  refine (Join.join_any ⟨#[]⟩ (s.extract p (p + n)) _ (by decide) hz).mono ?_
  rintro e w2 ⟨rfl, hb2⟩
  have hsz2 := hb2.size
  obtain ⟨hcc2, hff2⟩ := bcell hb2
  simp at hsz2 hcc2 hff2
  have hlt2 : w.heap.size < w1.heap.size + 1 := by omega
  go_wp2
  refine bodyPost_ret (v := .agg #[.string (s.extract p (p + n)), .int .i64 ((p + n : Nat) : Int), .int .i64 0]) ?_ rfl ⟨rfl, ?_⟩
  · simp [results, Tryd.results25, go_sem, hcc, hlt, hcc2, hlt2]
  · have hB1 : Below w.heap.size w w2 := bstep (balloc (bstep (balloc (Below.refl _ _) _) hb1) _) hb2
    repeat (first | exact hB1 | refine Below.drew ?_ | refine bset ?_ _ _ | refine Below.alloc ?_ (by simp; omega) _)

end Go.Proofs.YtkanhjafchiikaaDoor.GetText
