/- What the two GetText functions answer, given what the two GetNum functions do. -/
import Derived.Test.YtednbehelcfopadDoorImplGetNum
import Derived.Test.YtednbehelcfopadDoorJoin
import Derived.BigRegion
import Derived.WalkSpells
namespace Go.Proofs.YtednbehelcfopadDoor.GetText
open Go.RowKit Go.Proofs.YtednbehelcfopadDoor.GetNum

theorem bset {w a : World} (h : Below w.heap.size w a) (o : Nat) (v : Value) : Below w.heap.size w (a.setCell ⟨w.heap.size, o, none⟩ v) := h.setCell (p := ⟨w.heap.size, o, none⟩) (Nat.le_refl _) v

/-- GetNum's answer, at the model's function or the program's. -/
abbrev Gets (f : Nat) (s : ByteArray) (a n p c : Int) (w : World) : Prop :=
  Calls Tryd.prog f #[.string s, .int .i64 a] w fun e w' => e = .returned (.agg #[.int .i64 n, .int .i64 p, .int .i64 c]) ∧ Below w.heap.size w w'
abbrev Texts (f : Nat) (s : ByteArray) (a : Int) (t : ByteArray) (p c : Int) (w : World) : Prop :=
  Calls Tryd.prog f #[.string s, .int .i64 a] w fun e w' => e = .returned (.agg #[.string t, .int .i64 p, .int .i64 c]) ∧ Below w.heap.size w w'

set_option maxRecDepth 100000 in
set_option maxHeartbeats 1000000 in
theorem spec_code (s : ByteArray) (a n p c : Int) (w : World) (hc : c ≠ 0) (K : ∀ w, Gets 5 s a n p c w) : Texts 8 s a ByteArray.empty 0 c w := by
  have HK : Hid _ := K
  clear K
  have hcb : (c != 0) = true := by rw [bne_iff_ne]; exact hc
  clear hc
  unfold Texts
  go_enter Tryd.func8, Tryd.ntmps8
  go_wp2_with (first | (go_at_call 5; refine (HK.out _).mono ?_; rintro e w1 ⟨rfl, hb1⟩; obtain ⟨hcc, hff⟩ := bcell hb1; have hsz := hb1.size; simp at hcc hff hsz; have hlt : w.heap.size < w1.heap.size := by omega))
  refine bodyPost_ret (v := .agg #[.string ByteArray.empty, .int .i64 0, .int .i64 c]) ?_ rfl ⟨rfl, ?_⟩
  · simp [results, Tryd.results8, go_sem, hcc, hlt]
    rfl
  · have hB1 : Below w.heap.size w w1 := bstep (balloc (Below.refl _ _) _) hb1
    repeat (first | exact hB1 | refine Below.drew ?_ | refine bset ?_ _ _ | refine Below.alloc ?_ (by simp; omega) _)

set_option maxRecDepth 100000 in
set_option maxHeartbeats 1000000 in
theorem spec_syntax (s : ByteArray) (a n p : Int) (w : World) (hn : n < 0 ∨ 8000 < n) (K : ∀ w, Gets 5 s a n p 0 w) : Texts 8 s a ByteArray.empty 0 3 w := by
  have HK : Hid _ := K
  clear K
  unfold Texts
  rcases hn with hn | hn
  all_goals
    go_enter Tryd.func8, Tryd.ntmps8
    go_wp2_with (first | (go_at_call 5; refine (HK.out _).mono ?_; rintro e w1 ⟨rfl, hb1⟩; obtain ⟨hcc, hff⟩ := bcell hb1; have hsz := hb1.size; simp at hcc hff hsz; have hlt : w.heap.size < w1.heap.size := by omega))
    refine bodyPost_ret (v := .agg #[.string ByteArray.empty, .int .i64 0, .int .i64 3]) ?_ rfl ⟨rfl, ?_⟩
    · simp [results, Tryd.results8, go_sem, hcc, hlt]
      rfl
    · have hB1 : Below w.heap.size w w1 := bstep (balloc (Below.refl _ _) _) hb1
      repeat (first | exact hB1 | refine Below.drew ?_ | refine bset ?_ _ _ | refine Below.alloc ?_ (by simp; omega) _)

set_option maxRecDepth 100000 in
set_option maxHeartbeats 1000000 in
theorem spec_short (s : ByteArray) (a : Int) (n p : Nat) (w : World) (hs : (s.size : Int) ≤ 8000) (hn : (n : Int) ≤ 8000) (hq : (p : Int) ≤ s.size) (hp : (s.size : Int) < (p : Int) + (n : Int)) (K : ∀ w, Gets 5 s a n p 0 w) : Texts 8 s a ByteArray.empty 0 4 w := by
  have HK : Hid _ := K
  clear K
  have hle : (s.size : Int) - (n : Int) < (p : Int) := by omega
  unfold Texts
  go_enter Tryd.func8, Tryd.ntmps8
  go_wp2_with (first | (go_at_call 5; refine (HK.out _).mono ?_; rintro e w1 ⟨rfl, hb1⟩; obtain ⟨hcc, hff⟩ := bcell hb1; have hsz := hb1.size; simp at hcc hff hsz; have hlt : w.heap.size < w1.heap.size := by omega))
  refine bodyPost_ret (v := .agg #[.string ByteArray.empty, .int .i64 0, .int .i64 4]) ?_ rfl ⟨rfl, ?_⟩
  · simp [results, Tryd.results8, go_sem, hcc, hlt]
    rfl
  · have hB1 : Below w.heap.size w w1 := bstep (balloc (Below.refl _ _) _) hb1
    repeat (first | exact hB1 | refine Below.drew ?_ | refine bset ?_ _ _ | refine Below.alloc ?_ (by simp; omega) _)

set_option maxRecDepth 100000 in
set_option maxHeartbeats 1000000 in
theorem impl_code (s : ByteArray) (a n p c : Int) (w : World) (hL : Laid w) (hc : c ≠ 0) (K : ∀ w, Laid w → Gets 6 s a n p c w) : Texts 9 s a ByteArray.empty 0 c w := by
  have HK : Hid _ := K
  clear K
  have HL : Hid (Laid w) := hL
  clear hL
  have hcb : (c != 0) = true := by rw [bne_iff_ne]; exact hc
  clear hc
  unfold Texts
  go_enter Tryd.func9, Tryd.ntmps9
  go_wp2_with (first | (go_at_call 6; refine (HK.out _ (laid_below HL.out (balloc (Below.refl _ _) _))).mono ?_; rintro e w1 ⟨rfl, hb1⟩; obtain ⟨hcc, hff⟩ := bcell hb1; have hsz := hb1.size; simp at hcc hff hsz; have hlt : w.heap.size < w1.heap.size := by omega))
  refine bodyPost_ret (v := .agg #[.string ByteArray.empty, .int .i64 0, .int .i64 c]) ?_ rfl ⟨rfl, ?_⟩
  · simp [results, Tryd.results9, go_sem, hcc, hlt]
    rfl
  · have hB1 : Below w.heap.size w w1 := bstep (balloc (Below.refl _ _) _) hb1
    repeat (first | exact hB1 | refine Below.drew ?_ | refine bset ?_ _ _ | refine Below.alloc ?_ (by simp; omega) _)

set_option maxRecDepth 100000 in
set_option maxHeartbeats 1000000 in
theorem impl_syntax (s : ByteArray) (a n p : Int) (w : World) (hL : Laid w) (hn : n < 0 ∨ 8000 < n) (K : ∀ w, Laid w → Gets 6 s a n p 0 w) : Texts 9 s a ByteArray.empty 0 3 w := by
  have HK : Hid _ := K
  clear K
  have HL : Hid (Laid w) := hL
  clear hL
  unfold Texts
  rcases hn with hn | hn
  all_goals
    go_enter Tryd.func9, Tryd.ntmps9
    go_wp2_with (first | (go_at_call 6; refine (HK.out _ (laid_below HL.out (balloc (Below.refl _ _) _))).mono ?_; rintro e w1 ⟨rfl, hb1⟩; obtain ⟨hcc, hff⟩ := bcell hb1; have hsz := hb1.size; simp at hcc hff hsz; have hlt : w.heap.size < w1.heap.size := by omega))
    refine bodyPost_ret (v := .agg #[.string ByteArray.empty, .int .i64 0, .int .i64 3]) ?_ rfl ⟨rfl, ?_⟩
    · simp [results, Tryd.results9, go_sem, hcc, hlt]
      rfl
    · have hB1 : Below w.heap.size w w1 := bstep (balloc (Below.refl _ _) _) hb1
      repeat (first | exact hB1 | refine Below.drew ?_ | refine bset ?_ _ _ | refine Below.alloc ?_ (by simp; omega) _)

set_option maxRecDepth 100000 in
set_option maxHeartbeats 1000000 in
theorem impl_short (s : ByteArray) (a : Int) (n p : Nat) (w : World) (hL : Laid w) (hs : (s.size : Int) ≤ 8000) (hn : (n : Int) ≤ 8000) (hq : (p : Int) ≤ s.size) (hp : (s.size : Int) < (p : Int) + (n : Int)) (K : ∀ w, Laid w → Gets 6 s a n p 0 w) : Texts 9 s a ByteArray.empty 0 4 w := by
  have HK : Hid _ := K
  clear K
  have HL : Hid (Laid w) := hL
  clear hL
  unfold Texts
  go_enter Tryd.func9, Tryd.ntmps9
  go_wp2_with (first | (go_at_call 6; refine (HK.out _ (laid_below HL.out (balloc (Below.refl _ _) _))).mono ?_; rintro e w1 ⟨rfl, hb1⟩; obtain ⟨hcc, hff⟩ := bcell hb1; have hsz := hb1.size; simp at hcc hff hsz; have hlt : w.heap.size < w1.heap.size := by omega))
  refine bodyPost_ret (v := .agg #[.string ByteArray.empty, .int .i64 0, .int .i64 4]) ?_ rfl ⟨rfl, ?_⟩
  · simp [results, Tryd.results9, go_sem, hcc, hlt]
    rfl
  · have hB1 : Below w.heap.size w w1 := bstep (balloc (Below.refl _ _) _) hb1
    repeat (first | exact hB1 | refine Below.drew ?_ | refine bset ?_ _ _ | refine Below.alloc ?_ (by simp; omega) _)

set_option maxRecDepth 100000 in
set_option maxHeartbeats 1000000 in
theorem spec_ok (s : ByteArray) (a : Int) (n p : Nat) (w : World) (hs : (s.size : Int) ≤ 8000) (hn : (n : Int) ≤ 8000) (hp : (p : Int) + (n : Int) ≤ s.size) (K : ∀ w, Gets 5 s a n p 0 w) :
    Texts 8 s a (s.extract p (p + n)) ((p + n : Nat) : Int) 0 w := by
  have HK : Hid _ := K
  clear K
  have hle : (p : Int) ≤ (s.size : Int) - (n : Int) := by omega
  unfold Texts
  go_enter Tryd.func8, Tryd.ntmps8
  go_wp2_with (first | (go_at_call 5; refine (HK.out _).mono ?_; rintro e w1 ⟨rfl, hb1⟩; obtain ⟨hcc, hff⟩ := bcell hb1; have hsz := hb1.size; simp at hcc hff hsz; have hlt : w.heap.size < w1.heap.size := by omega))
  go_region
  go_wp2
  refine bodyPost_ret (v := .agg #[.string (s.extract p (p + n)), .int .i64 ((p + n : Nat) : Int), .int .i64 0]) ?_ rfl ⟨rfl, ?_⟩
  · simp [results, Tryd.results8, go_sem, hcc, hlt]
  · have hB1 : Below w.heap.size w w1 := bstep (balloc (Below.refl _ _) _) hb1
    repeat (first | exact hB1 | refine Below.drew ?_ | refine bset ?_ _ _ | refine Below.alloc ?_ (by simp; omega) _)

theorem empty_app (t : ByteArray) : (⟨#[]⟩ : ByteArray) ++ t = t := by
  apply ByteArray.ext; simp

set_option maxRecDepth 100000 in
set_option maxHeartbeats 1000000 in
theorem impl_ok (s : ByteArray) (a : Int) (n p : Nat) (w : World) (hL : Laid w) (hs : (s.size : Int) ≤ 8000) (hn : (n : Int) ≤ 8000) (hp : (p : Int) + (n : Int) ≤ s.size) (K : ∀ w, Laid w → Gets 6 s a n p 0 w) :
    Texts 9 s a (s.extract p (p + n)) ((p + n : Nat) : Int) 0 w := by
  have HK : Hid _ := K
  clear K
  have HL : Hid (Laid w) := hL
  clear hL
  have he := empty_app (s.extract p (p + n))
  have hz : (s.extract p (p + n)).size ≤ 1000000 := by simp [ByteArray.size_extract]; omega
  unfold Texts
  go_enter Tryd.func9, Tryd.ntmps9
  go_wp2_with (first | (go_at_call 6; refine (HK.out _ (laid_below HL.out (balloc (Below.refl _ _) _))).mono ?_; rintro e w1 ⟨rfl, hb1⟩; obtain ⟨hcc, hff⟩ := bcell hb1; have hsz := hb1.size; simp at hcc hff hsz; have hlt : w.heap.size < w1.heap.size := by omega))
  refine (Join.join_any ⟨#[]⟩ (s.extract p (p + n)) _ (by decide) hz).mono ?_
  rintro e w2 ⟨rfl, hb2⟩
  have hsz2 := hb2.size
  obtain ⟨hcc2, hff2⟩ := bcell hb2
  simp at hsz2 hcc2 hff2
  have hlt2 : w.heap.size < w1.heap.size + 1 := by omega
  go_wp2
  refine bodyPost_ret (v := .agg #[.string (s.extract p (p + n)), .int .i64 ((p + n : Nat) : Int), .int .i64 0]) ?_ rfl ⟨rfl, ?_⟩
  · simp [results, Tryd.results9, go_sem, hcc, hlt, hcc2, hlt2]
  · have hB1 : Below w.heap.size w w2 := bstep (balloc (bstep (balloc (Below.refl _ _) _) hb1) _) hb2
    repeat (first | exact hB1 | refine Below.drew ?_ | refine bset ?_ _ _ | refine Below.alloc ?_ (by simp; omega) _)

/-- Whatever the place: one answer of both. -/
theorem both (s : ByteArray) (a : Int) (h2 : a ≤ 9223372036854775807) :
    ∃ (t : ByteArray) (p c : Int), (∀ w, Texts 8 s a t p c w) ∧ (∀ w, Laid w → Texts 9 s a t p c w) := by
  obtain ⟨n, p, c, ans, K1, K2⟩ := GetNum.both s a h2
  by_cases hc : c = 0
  · subst hc
    obtain ⟨hp0, hp1, hs⟩ := ans.ok rfl
    obtain ⟨q, rfl⟩ := Int.eq_ofNat_of_zero_le hp0
    by_cases hn : n < 0 ∨ 8000 < n
    · exact ⟨_, _, _, fun w => spec_syntax s a n q w hn K1, fun w hL => impl_syntax s a n q w hL hn K2⟩
    · obtain ⟨m, rfl⟩ := Int.eq_ofNat_of_zero_le (by omega : 0 ≤ n)
      by_cases hp : (q : Int) + (m : Int) ≤ s.size
      · exact ⟨_, _, _, fun w => spec_ok s a m q w hs (by omega) hp K1, fun w hL => impl_ok s a m q w hL hs (by omega) hp K2⟩
      · exact ⟨_, _, _, fun w => spec_short s a m q w hs (by omega) hp1 (by omega) K1, fun w hL => impl_short s a m q w hL hs (by omega) hp1 (by omega) K2⟩
  · exact ⟨_, _, _, fun w => spec_code s a n p c w hc K1, fun w hL => impl_code s a n p c w hL hc K2⟩
end Go.Proofs.YtednbehelcfopadDoor.GetText
