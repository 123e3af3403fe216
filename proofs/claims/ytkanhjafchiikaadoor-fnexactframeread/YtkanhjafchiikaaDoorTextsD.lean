/- Laws that the proof rests on, put together: The two GetText functions give one answer. Seven numbers and a text read one behind the other. What reading a frame tells. What the program's look at rising shards answers. -/
import Derived.Test.YtkanhjafchiikaaDoorTextsC
import Derived.Test.YtkanhjafchiikaaDoorSpecGetText
import Derived.Test.YtkanhjafchiikaaDoorImplGetText
import Derived.Test.YtkanhjafchiikaaDoorSortPure
import Derived.Test.YtkanhjafchiikaaDoorImplCut
import Derived.Deep.QuietTactic
import Derived.BigQuiet
/- The two GetText functions give one answer. -/
namespace Go.Proofs.YtkanhjafchiikaaDoor.GetText
open Go.RowKit Go.Proofs.YtkanhjafchiikaaDoor.GetNum

/-- Whatever the place: one answer of both. -/
theorem both (s : ByteArray) (a : Int) (h2 : a ≤ 9223372036854775807) :
    ∃ (t : ByteArray) (p c : Int), (∀ w, Texts 18 s a t p c w) ∧ (∀ w, Laid w → Texts 25 s a t p c w) := by
  obtain ⟨n, p, c, ans, K1, K2⟩ := GetNum.both s a h2
  by_cases hc : c = 0
  · subst hc
    obtain ⟨hp0, hp1, hs⟩ := ans.ok rfl
    obtain ⟨q, rfl⟩ := Int.eq_ofNat_of_zero_le hp0
    by_cases hn : n < 0 ∨ 8000 < n
    · exact ⟨_, _, _, fun w => spec_syntax s a n q w hn K1, fun w hL => impl_syntax s a n q w hL hn K2⟩
    · obtain ⟨m, rfl⟩ := Int.eq_ofNat_of_zero_le (by omega : 0 ≤ n)
      by_cases hp : (q : Int) + (m : Int) ≤ s.size
      · exact ⟨_, _, _, fun w => spec_ok s a m q w hs (by omega) hp K1, fun w hL => impl_ok s a m q w hL hs (by omega) hp K2⟩
      · exact ⟨_, _, _, fun w => spec_short s a m q w hs (by omega) hp1 (by omega) K1, fun w hL => impl_short s a m q w hL hs (by omega) hp1 (by omega) K2⟩
  · exact ⟨_, _, _, fun w => spec_code s a n p c w hc K1, fun w hL => impl_code s a n p c w hL hc K2⟩
end Go.Proofs.YtkanhjafchiikaaDoor.GetText

/- Seven numbers and a text read one behind the other. -/
namespace Go.Proofs.YtkanhjafchiikaaDoor.Frm
open Go.RowKit Go.Proofs.YtkanhjafchiikaaDoor.GetNum Go.Proofs.YtkanhjafchiikaaDoor.GetText

/-- what both read at place a -/
structure Num (s : ByteArray) (a n p c : Int) : Prop where
  ans : Ans s n p c
  sp : ∀ w, Gets 17 s a n p c w
  im : ∀ w, Laid w → Gets 24 s a n p c w
structure Txt (s : ByteArray) (a : Int) (t : ByteArray) (c : Int) : Prop where
  none : c ≠ 0 → t = ByteArray.empty
  small : t.size ≤ 8000
  sp : ∃ p, ∀ w, Texts 18 s a t p c w
  im : ∃ p, ∀ w, Laid w → Texts 25 s a t p c w
theorem num_is (s : ByteArray) (a : Int) (h : a ≤ 9223372036854775807) : ∃ n p c, Num s a n p c := by
  obtain ⟨n, p, c, h1, h2, h3⟩ := GetNum.both s a h
  exact ⟨n, p, c, h1, h2, h3⟩
theorem txt_is (s : ByteArray) (a : Int) (h2 : a ≤ 9223372036854775807) : ∃ t c, Txt s a t c := by
  obtain ⟨n, p, c, ans, K1, K2⟩ := GetNum.both s a h2
  by_cases hc : c = 0
  · subst hc
    obtain ⟨hp0, hp1, hs⟩ := ans.ok rfl
    obtain ⟨q, rfl⟩ := Int.eq_ofNat_of_zero_le hp0
    by_cases hn : n < 0 ∨ 8000 < n
    · exact ⟨_, _, fun _ => rfl, by simp, ⟨_, fun w => spec_syntax s a n q w hn K1⟩, ⟨_, fun w hL => impl_syntax s a n q w hL hn K2⟩⟩
    · obtain ⟨m, rfl⟩ := Int.eq_ofNat_of_zero_le (by omega : 0 ≤ n)
      by_cases hp : (q : Int) + (m : Int) ≤ s.size
      · exact ⟨_, _, fun h => absurd rfl h, by rw [ByteArray.size_extract]; omega, ⟨_, fun w => spec_ok s a m q w hs (by omega) hp K1⟩, ⟨_, fun w hL => impl_ok s a m q w hL hs (by omega) hp K2⟩⟩
      · exact ⟨_, _, fun _ => rfl, by simp, ⟨_, fun w => spec_short s a m q w hs (by omega) hp1 (by omega) K1⟩, ⟨_, fun w hL => impl_short s a m q w hL hs (by omega) hp1 (by omega) K2⟩⟩
  · exact ⟨_, _, fun _ => rfl, by simp, ⟨_, fun w => spec_code s a n p c w hc K1⟩, ⟨_, fun w hL => impl_code s a n p c w hL hc K2⟩⟩

/-- the place behind the first k numbers -/
def pos (l : List (Int × Int)) (k : Nat) : Int := if k = 0 then 0 else (l.getD (k - 1) (0, 0)).2
def Run (s : ByteArray) (l : List (Int × Int)) : Prop := ∀ k (h : k < l.length), Num s (pos l k) l[k].1 l[k].2 0
theorem pos_bd {s : ByteArray} {l : List (Int × Int)} (h : Run s l) (hs : s.size ≤ 8000) (k : Nat) (hk : k ≤ l.length) : 0 ≤ pos l k ∧ pos l k ≤ 8000 := by
  unfold pos
  split
  · omega
  · have h1 : k - 1 < l.length := by omega
    have h2 := (h (k - 1) h1).ans.ok rfl
    have e : l.getD (k - 1) (0, 0) = l[k - 1] := by simp [List.getD, h1]
    rw [e]; omega
theorem run_is (s : ByteArray) (hs : s.size ≤ 8000) : ∀ k, ∃ l, Run s l ∧ (l.length = k ∨ (l.length < k ∧ ∃ n p c, Num s (pos l l.length) n p c ∧ c ≠ 0))
  | 0 => ⟨[], fun k h => by simp at h, .inl rfl⟩
  | k + 1 => by
    obtain ⟨l, hr, h | ⟨h, n, p, c, hn, hc⟩⟩ := run_is s hs k
    · obtain ⟨n, p, c, hn⟩ := num_is s (pos l l.length) (by have := pos_bd hr hs l.length (Nat.le_refl _); omega)
      by_cases hc : c = 0
      · subst hc
        refine ⟨l ++ [(n, p)], fun j hj => ?_, .inl (by simp [h])⟩
        have hj2 : j < l.length + 1 := by simpa using hj
        have hpos : pos (l ++ [(n, p)]) j = pos l j := by
          unfold pos
          split
          · rfl
          · have : j - 1 < l.length := by omega
            simp [List.getD, List.getElem?_append_left this]
        rw [hpos]
        rcases Nat.lt_or_ge j l.length with h1 | h1
        · have e : (l ++ [(n, p)])[j] = l[j] := by simp [List.getElem_append_left h1]
          rw [e]; exact hr j h1
        · obtain rfl : j = l.length := by omega
          have e : (l ++ [(n, p)])[l.length] = (n, p) := by simp
          rw [e]; exact hn
      · exact ⟨l, hr, .inr ⟨by omega, n, p, c, hn, hc⟩⟩
    · exact ⟨l, hr, .inr ⟨by omega, n, p, c, hn, hc⟩⟩
/-- the value of the number k, 0 where none is read -/
def valAt (l : List (Int × Int)) (k : Nat) : Int := (l.getD k (0, 0)).1
def atAt (l : List (Int × Int)) (k : Nat) : Int := pos l (min k l.length)
def badAt (l : List (Int × Int)) (k : Nat) : Bool := decide (l.length < k)
/-- what is known at each of the seven -/
structure Sev (s : ByteArray) (l : List (Int × Int)) : Prop where
  run : Run s l
  end_ : l.length = 7 ∨ (l.length < 7 ∧ ∃ n p c, Num s (pos l l.length) n p c ∧ c ≠ 0)
theorem sev_is (s : ByteArray) (hs : s.size ≤ 8000) : ∃ l, Sev s l := by
  obtain ⟨l, h1, h2⟩ := run_is s hs 7
  exact ⟨l, h1, h2⟩
theorem Sev.at {s : ByteArray} {l : List (Int × Int)} (h : Sev s l) (k : Nat) (hk : k < 7) : ∃ n p c, Num s (atAt l k) n p c ∧ (k < l.length → n = valAt l k ∧ p = atAt l (k + 1) ∧ c = 0) ∧ (l.length ≤ k → c ≠ 0 ∧ valAt l k = 0 ∧ atAt l (k + 1) = atAt l k) := by
  rcases Nat.lt_or_ge k l.length with h1 | h1
  · have hn := h.run k h1
    have e1 : atAt l k = pos l k := by unfold atAt; rw [Nat.min_eq_left (by omega)]
    have e2 : valAt l k = l[k].1 := by simp [valAt, List.getD, h1]
    have e3 : atAt l (k + 1) = l[k].2 := by
      unfold atAt
      rw [Nat.min_eq_left (by omega)]
      simp [pos, List.getD, h1]
    rw [e1]
    exact ⟨_, _, _, hn, fun _ => ⟨e2.symm, e3.symm, rfl⟩, fun h2 => by omega⟩
  · rcases h.end_ with h2 | ⟨h2, n, p, c, hn, hc⟩
    · omega
    · have e1 : atAt l k = pos l l.length := by unfold atAt; rw [Nat.min_eq_right h1]
      have e3 : atAt l (k + 1) = pos l l.length := by unfold atAt; rw [Nat.min_eq_right (by omega)]
      rw [e1]
      refine ⟨n, p, c, hn, fun h3 => by omega, fun _ => ⟨hc, ?_, e3⟩⟩
      simp [valAt, List.getD, List.getElem?_eq_none h1]
end Go.Proofs.YtkanhjafchiikaaDoor.Frm

/- What reading a frame tells. -/
namespace Go.Proofs.YtkanhjafchiikaaDoor.Frm
open Go.RowKit Go.Proofs.YtkanhjafchiikaaDoor.Gf Go.Proofs.YtkanhjafchiikaaDoor.GetText

/-- a frame and a code as nine cells -/
def Fr.told (f : Fr) (c : Int) : Value := .agg #[.int .i64 f.o, .int .i64 f.g, .int .i64 f.gs, .int .i64 f.n, .int .i64 f.m, .int .i64 f.s, .int .i64 f.x, .string f.t, .int .i64 c]
def Fr.none : Fr := ⟨0, 0, 0, 0, 0, 0, 0, ByteArray.empty⟩
theorem told_none (c : Int) : Fr.none.told c = .agg #[.int .i64 0, .int .i64 0, .int .i64 0, .int .i64 0, .int .i64 0, .int .i64 0, .int .i64 0, .string ByteArray.empty, .int .i64 c] := rfl
/-- the frame that is read -/
def readF (l : List (Int × Int)) (t : ByteArray) : Fr := ⟨valAt l 0, valAt l 1, valAt l 2, valAt l 3, valAt l 4, valAt l 5, valAt l 6, t⟩
/-- what the program reads: nothing where a number lacks -/
def gotF (l : List (Int × Int)) (t : ByteArray) : Fr := if l.length = 7 then readF l t else ⟨0, 0, 0, 0, 0, 0, 0, ByteArray.empty⟩
/-- what comes of a frame that was read in the text T -/
def tellF (T : ByteArray) (f : Fr) (bad : Bool) : Value := if bad = false ∧ (f.out.toList == T.toList) = true then f.told 0 else Fr.none.told 3
theorem out_no {f : Fr} (h : f.right = false) : f.out = ByteArray.empty := by unfold Fr.out; rw [h]; rfl
theorem none_differs (T : ByteArray) (h : 4 ≤ T.size) : (ByteArray.empty.toList == T.toList) = false := by
  have e : T.toList = T.data.toList := ByteArray.toList_eq T
  have e0 : ByteArray.empty.toList = ByteArray.empty.data.toList := ByteArray.toList_eq _
  rw [e, e0]
  cases hl : T.data.toList with
  | nil =>
    have h1 : T.data.toList.length = T.size := Array.length_toList
    rw [hl] at h1; simp at h1; omega
  | cons a l => rfl
theorem right_none : Fr.none.right = false := by simp [Fr.right, Fr.none, isB]
theorem right_no_data {f : Fr} (h : f.t = ByteArray.empty) : f.right = false := by
  cases hr : f.right
  · rfl
  · exfalso
    unfold Fr.right at hr
    simp only [Bool.and_eq_true, decide_eq_true_eq] at hr
    obtain ⟨⟨⟨⟨⟨h1, h2⟩, h3⟩, h4⟩, h5⟩, h6⟩ := hr
    obtain ⟨n', m', s', e1, e2, e3, q1, q2, q3, q4, q5⟩ := fine_parts h4
    have a6 : f.t.size = plen n' s' := by rw [h6, e1, e3]; simp
    rw [h] at a6
    have := plen_pos (need := n') (size := s') (by omega) (by omega)
    simp at a6
    omega
/-- both sides tell the same -/
theorem tell_same (T : ByteArray) (l : List (Int × Int)) (t : ByteArray) (c : Int) (h4 : 4 ≤ T.size) (ht : c ≠ 0 → t = ByteArray.empty) (hl : l.length ≤ 7) :
    tellF T (gotF l t) false = tellF T (readF l (if badAt l 7 = false then t else ByteArray.empty)) (badAt l 7 || decide (c ≠ 0)) := by
  have hbad : ∀ f b, (f.right = false ∨ b = true) → tellF T f b = Fr.none.told 3 := fun f b h => by
    unfold tellF
    rw [if_neg]
    rintro ⟨h1, h2⟩
    rcases h with h | h
    · rw [out_no h, none_differs T h4] at h2; cases h2
    · rw [h] at h1; cases h1
  by_cases h7 : l.length = 7
  · have e : badAt l 7 = false := by unfold badAt; simp; omega
    rw [e, if_pos rfl]
    unfold gotF
    rw [if_pos h7]
    by_cases hc : c = 0
    · subst hc; simp
    · rw [hbad _ _ (.inl (right_no_data (ht hc))), hbad _ _ (.inr (by simp [hc]))]
  · have e : badAt l 7 = true := by unfold badAt; simp; omega
    rw [e]
    unfold gotF
    rw [if_neg h7]
    show tellF T Fr.none false = _
    rw [hbad _ _ (.inl right_none), hbad _ _ (.inr (by simp))]
end Go.Proofs.YtkanhjafchiikaaDoor.Frm

/- What the program's look at rising shards answers. -/
namespace Go.Proofs.YtkanhjafchiikaaDoor.Srt
open Go.RowKit Go.Proofs.YtkanhjafchiikaaDoor.Mem Go.Proofs.YtkanhjafchiikaaDoor.Harn Go.Proofs.YtkanhjafchiikaaDoor.Gf

theorem ret_bool {a b : Bool} (h : a = b) : Ending.returned (.bool a) = .returned (.bool b) := by rw [h]
/-- may this be a shard of a text of s bytes, of n and m pieces? -/
def okS (n m s : Nat) (x : E) : Bool := decide (0 ≤ x.1) && decide (x.1 < (n : Int) + m) && decide (x.2.size = plen n s)

set_option maxRecDepth 100000 in
set_option maxHeartbeats 1000000 in
theorem shardRight_any (x : Int) (t : ByteArray) (n m s : Nat) (w : World) (hn : 0 < n) (hn2 : n ≤ 100) (hm : m ≤ 100) (hs : s ≤ 1000) :
    Calls Tryd.prog 44 #[.agg #[.int .i64 x, .string t], .int .i64 (n : Nat), .int .i64 (m : Nat), .int .i64 (s : Nat)] w fun e w' => e = .returned (.bool (okS n m s (x, t))) ∧ Below w.heap.size w w' := by
  have HE : Hid (okS n m s (x, t) = (decide (0 ≤ x) && decide (x < (n : Int) + m) && decide (t.size = plen n s))) := rfl
  have HPS : Hid (∀ W, Calls Tryd.prog 49 #[.int .i64 (n : Nat), .int .i64 (s : Nat)] W fun e w' => e = .returned (.int .i64 (plen n s : Nat)) ∧ w' = W) := fun W => (pieceSize_any n s W hn (by omega) hs).mono fun _ _ h => ⟨h.1, h.2.symm⟩
  generalize okS n m s (x, t) = z at *
  have hpl := plen_small (need := n) (size := s) hn
  generalize plen n s = L at *
  by_cases h0 : 0 ≤ x
  · by_cases h1 : x < (n : Int) + (m : Int)
    · have HE' : Hid (z = decide (t.size = L)) := by show _ = _; rw [HE.out, decide_eq_true h0, decide_eq_true h1]; rfl
      have hq : (((t.size : Int)) == (L : Int)) = decide (t.size = L) := by
        by_cases e : t.size = L
        · rw [decide_eq_true e, beq_iff_eq]; omega
        · rw [decide_eq_false e, beq_eq_false_iff_ne]; omega
      have d0 : decide (0 ≤ x) = true := decide_eq_true h0
      have d1 : decide (x < (n : Int) + (m : Int)) = true := decide_eq_true h1
      clear HE
      go_enter Tryd.func44, Tryd.ntmps44
      go_wp2_with fail
      go_quiet ((go_at_call 49; exact Calls.quiet_of_same (HPS.out _)))
      go_wp2
      go_ret
      exact ⟨ret_bool HE'.out.symm, Sha.bel_drewN ((Below.refl _ _).alloc (Nat.le_refl _) _) _⟩
    · have HE' : Hid (z = false) := by show _ = _; rw [HE.out, decide_eq_false h1]; simp
      have d0 : decide (0 ≤ x) = true := decide_eq_true h0
      have d1 : decide (x < (n : Int) + (m : Int)) = false := decide_eq_false h1
      clear HE
      go_enter Tryd.func44, Tryd.ntmps44
      go_wp2_with fail
      go_quiet (fail)
      go_wp2
      go_ret
      exact ⟨ret_bool HE'.out.symm, Sha.bel_drewN ((Below.refl _ _).alloc (Nat.le_refl _) _) _⟩
  · have HE' : Hid (z = false) := by show _ = _; rw [HE.out, decide_eq_false h0]; simp
    have d0 : decide (0 ≤ x) = false := decide_eq_false h0
    clear HE
    go_enter Tryd.func44, Tryd.ntmps44
    go_wp2_with fail
    go_quiet (fail)
    go_wp2
    go_ret
    exact ⟨ret_bool HE'.out.symm, Sha.bel_drewN ((Below.refl _ _).alloc (Nat.le_refl _) _) _⟩

/-- are these rising shards those of a text? -/
def rightAt (n m s : Nat) (l : List E) (i : Nat) : Bool := okS n m s (l[i]?.getD dE) && (decide (i = 0) || decide (kat l i ≠ kat l (i - 1)))
def rightB (n m s : Nat) (l : List E) : Bool := (List.range l.length).all (rightAt n m s l)
theorem rightB_no {n m s : Nat} {l : List E} {i : Nat} (hi : i < l.length) (h : rightAt n m s l i = false) : rightB n m s l = false := by
  unfold rightB; rw [List.all_eq_false]; exact ⟨i, by simpa using hi, by simp [h]⟩
theorem rightB_yes {n m s : Nat} {l : List E} (h : ∀ i, i < l.length → rightAt n m s l i = true) : rightB n m s l = true := by
  unfold rightB; rw [List.all_eq_true]; intro i hi; exact h i (by simpa using hi)
end Go.Proofs.YtkanhjafchiikaaDoor.Srt
