/- Laws that the proof rests on, put together: A tree read from a text: what both sides read, as functions of the text. The reader's text, with the place behind it; and how many. -/
import Derived.Test.YtjgkekgieodhnaaDoorTextsC
import Derived.Test.YtjgkekgieodhnaaDoorTreeTexts
import Derived.Test.YtjgkekgieodhnaaDoorTextsA
/- A tree read from a text: what both sides read, as functions of the text. -/
namespace Go.Proofs.YtjgkekgieodhnaaDoor.Tre
open Go.RowKit Go.Proofs.YtjgkekgieodhnaaDoor.GetNum Go.Proofs.YtjgkekgieodhnaaDoor.GetText Go.Proofs.YtjgkekgieodhnaaDoor.Frm Go.Proofs.YtjgkekgieodhnaaDoor.PutNum Go.Proofs.YtjgkekgieodhnaaDoor.NumRound

structure NumX (s : ByteArray) (a n p c : Int) : Prop where
  num : Num s a n p c
  no : c ≠ 0 → n = 0
  ok : 0 ≤ p ∧ p ≤ 8000
  rd : ∀ u q : Nat, a = 0 → (s.size : Int) ≤ 8000 → GetNum.rd s 0 = (0, u, q) → n = unfoldI u ∧ c = 0
theorem numX_is (s : ByteArray) (a : Int) (h2 : a ≤ 9223372036854775807) : ∃ n p c, NumX s a n p c := by
  by_cases hs : 8000 < (s.size : Int)
  · exact ⟨0, 0, 2, ⟨⟨by omega, by omega, fun h => by omega⟩, fun w => specGetNum_big s a w hs, fun w _ => implGetNum_big s a w hs⟩, fun _ => rfl, by omega, fun u q _ h => by omega⟩
  · have hs' : (s.size : Int) ≤ 8000 := by omega
    by_cases ha : a < 0
    · exact ⟨0, 0, 1, ⟨⟨by omega, by omega, fun h => by omega⟩, fun w => specGetNum_neg s a w hs' ha, fun w hL => implGetNum_code s a w 1 hs' hL (fun w => readNum_neg s a w ha)⟩, fun _ => rfl, by omega, fun u q h => by omega⟩
    · obtain ⟨m, rfl⟩ := Int.eq_ofNat_of_zero_le (by omega : 0 ≤ a)
      rcases rd_cases s m with ⟨y, q, hr, hy, hq⟩ | hr | hr
      · have hb := unfold_bd hy
        refine ⟨unfoldI y, (q : Nat), 0, ⟨⟨hb.1, hb.2, fun _ => ⟨by omega, by omega, hs'⟩⟩, fun w => ?_, fun w _ => ?_⟩, fun h => absurd rfl h, by omega, fun u q' h _ hrd => ?_⟩
        · have := specGetNum_in s m w hs' h2
          rwa [outV_ok hr] at this
        · refine implGetNum_ok s m w y q hs' (by omega) (fun w => ?_)
          have := readNum_in s m w hs' h2
          rwa [readV_ok hr] at this
        · obtain rfl : m = 0 := by omega
          rw [hr] at hrd
          injection hrd with _ h3
          injection h3 with h3 _
          rw [h3]; exact ⟨rfl, rfl⟩
      all_goals
        have hne : (GetNum.rd s m).1 ≠ 0 := by rw [hr]; decide
        refine ⟨0, 0, ((GetNum.rd s m).1 : Nat), ⟨⟨by omega, by omega, fun h => by omega⟩, fun w => ?_, fun w hL => ?_⟩, fun _ => rfl, by omega, fun u q' h _ hrd => ?_⟩
        · have := specGetNum_in s m w hs' h2
          unfold outV at this
          rwa [if_neg hne] at this
        · refine implGetNum_code s m w (GetNum.rd s m).1 hs' hL (fun w => ?_)
          have := readNum_in s m w hs' h2
          rwa [readV_code hne] at this
        · obtain rfl : m = 0 := by omega
          rw [hrd] at hne; exact absurd rfl hne
structure TxtX (s : ByteArray) (a : Int) (t : ByteArray) (p c : Int) : Prop where
  none : c ≠ 0 → t = ByteArray.empty
  small : t.size ≤ 8000
  ok : 0 ≤ p ∧ p ≤ 8000
  sp : ∀ w, Texts 21 s a t p c w
  im : ∀ w, Laid w → Texts 42 s a t p c w
theorem txtX_is (s : ByteArray) (a : Int) (h2 : a ≤ 9223372036854775807) : ∃ t p c, TxtX s a t p c := by
  obtain ⟨n, p, c, ans, K1, K2⟩ := GetNum.both s a h2
  by_cases hc : c = 0
  · subst hc
    obtain ⟨hp0, hp1, hs⟩ := ans.ok rfl
    obtain ⟨q, rfl⟩ := Int.eq_ofNat_of_zero_le hp0
    by_cases hn : n < 0 ∨ 8000 < n
    · exact ⟨_, _, _, fun _ => rfl, by simp, by omega, fun w => spec_syntax s a n q w hn K1, fun w hL => impl_syntax s a n q w hL hn K2⟩
    · obtain ⟨m, rfl⟩ := Int.eq_ofNat_of_zero_le (by omega : 0 ≤ n)
      by_cases hp : (q : Int) + (m : Int) ≤ s.size
      · exact ⟨_, _, _, fun h => absurd rfl h, by rw [ByteArray.size_extract]; omega, by omega, fun w => spec_ok s a m q w hs (by omega) hp K1, fun w hL => impl_ok s a m q w hL hs (by omega) hp K2⟩
      · exact ⟨_, _, _, fun _ => rfl, by simp, by omega, fun w => spec_short s a m q w hs (by omega) hp1 (by omega) K1, fun w hL => impl_short s a m q w hL hs (by omega) hp1 (by omega) K2⟩
  · exact ⟨_, _, _, fun _ => rfl, by simp, by omega, fun w => spec_code s a n p c w hc K1, fun w hL => impl_code s a n p c w hL hc K2⟩

theorem gN_is (s : ByteArray) (a : Int) : ∃ x : Int × Int × Int, a ≤ 9223372036854775807 → NumX s a x.1 x.2.1 x.2.2 := by
  by_cases h : a ≤ 9223372036854775807
  · obtain ⟨n, p, c, k⟩ := numX_is s a h
    exact ⟨(n, p, c), fun _ => k⟩
  · exact ⟨(0, 0, 0), fun h2 => absurd h2 h⟩
noncomputable def gN (s : ByteArray) (a : Int) : Int × Int × Int := Classical.choose (gN_is s a)
theorem gN_spec (s : ByteArray) (a : Int) (h : a ≤ 9223372036854775807) : NumX s a (gN s a).1 (gN s a).2.1 (gN s a).2.2 := Classical.choose_spec (gN_is s a) h
theorem gT_is (s : ByteArray) (a : Int) : ∃ x : ByteArray × Int × Int, a ≤ 9223372036854775807 → TxtX s a x.1 x.2.1 x.2.2 := by
  by_cases h : a ≤ 9223372036854775807
  · obtain ⟨n, p, c, k⟩ := txtX_is s a h
    exact ⟨(n, p, c), fun _ => k⟩
  · exact ⟨(ByteArray.empty, 0, 0), fun h2 => absurd h2 h⟩
noncomputable def gT (s : ByteArray) (a : Int) : ByteArray × Int × Int := Classical.choose (gT_is s a)
theorem gT_spec (s : ByteArray) (a : Int) (h : a ≤ 9223372036854775807) : TxtX s a (gT s a).1 (gT s a).2.1 (gT s a).2.2 := Classical.choose_spec (gT_is s a) h

/-- a file's three parts from place a on: the file, the place behind it, whether all are there -/
noncomputable def fF (s : ByteArray) (a : Int) : Fl := ⟨(gT s a).1, (gN s (gT s a).2.1).1, (gT s (gN s (gT s a).2.1).2.1).1⟩
noncomputable def fP (s : ByteArray) (a : Int) : Int := (gT s (gN s (gT s a).2.1).2.1).2.1
noncomputable def fOk (s : ByteArray) (a : Int) : Bool := decide ((gT s a).2.2 = 0) && decide ((gN s (gT s a).2.1).2.2 = 0) && decide ((gT s (gN s (gT s a).2.1).2.1).2.2 = 0)
/-- so many files from place a on -/
noncomputable def rdFs (s : ByteArray) : Nat → Int → Option (List Fl)
  | 0, _ => some []
  | m + 1, a => if fOk s a then (rdFs s m (fP s a)).map (fF s a :: ·) else none
theorem rdFs_len {s : ByteArray} : ∀ {m : Nat} {a : Int} {l : List Fl}, rdFs s m a = some l → l.length = m
  | 0, a, l, h => by simp [rdFs] at h; subst h; rfl
  | m + 1, a, l, h => by
    unfold rdFs at h
    split at h
    · cases h2 : rdFs s m (fP s a) with
      | none => rw [h2] at h; cases h
      | some l2 =>
        rw [h2] at h
        simp at h
        subst h
        simp [rdFs_len h2]
    · cases h
noncomputable def implL (s : ByteArray) : List Fl := if (gN s 0).1 < 0 then [] else (rdFs s (min (gN s 0).1.toNat 6) (gN s 0).2.1).getD []
noncomputable def specL (s : ByteArray) : Option (List Fl) := if (gN s 0).2.2 = 0 ∧ 0 ≤ (gN s 0).1 ∧ (gN s 0).1 ≤ 6 then rdFs s (gN s 0).1.toNat (gN s 0).2.1 else none
noncomputable def okL (s : ByteArray) : Bool := treeR (implL s) && (treeB (implL s)).toList == s.toList
noncomputable def outL (s : ByteArray) : List Fl := if okL s then implL s else []
noncomputable def outC (s : ByteArray) : Int := if okL s then 0 else 3
theorem head_num (l : List Fl) (hl : l.length ≤ 6) : GetNum.rd (treeB l) 0 = (0, foldN (l.length : Nat), (numB (l.length : Nat)).size) := by
  have e : treeB l = numB (l.length : Nat) ++ catB (filesT l) := rfl
  have hl2 : (numB (l.length : Nat)).data.toList = putF 9 (foldN (l.length : Nat)) := rfl
  have hz : (numB (l.length : Nat)).size = (putF 9 (foldN (l.length : Nat))).length := by rw [← hl2]; rfl
  have := rd_put (treeB l) 0 (foldN (l.length : Nat)) (foldN_lt _ (by omega) (by omega)) (by rw [e, ByteArray.size_append, hz]; omega) (fun i hi => by
    have hd : (treeB l).data.toList = (numB (l.length : Nat)).data.toList ++ (catB (filesT l)).data.toList := by rw [e]; simp
    rw [Nat.zero_add, NumRound.at_list, hd, hl2, List.getElem?_append_left hi])
  rw [this, hz, Nat.zero_add]
/-- Where the program takes what it read, the number at the beginning says how many. -/
theorem head_ok {s : ByteArray} (hs : s.size ≤ 8000) (h : okL s = true) : (gN s 0).1 = ((implL s).length : Nat) ∧ (gN s 0).2.2 = 0 := by
  unfold okL at h
  simp only [Bool.and_eq_true, beq_iff_eq] at h
  have e : treeB (implL s) = s := ByteArray.ext (Array.ext' (by rw [← Lib.toList_data, ← Lib.toList_data, h.2]))
  have h6 := treeR_le h.1
  have hr := head_num (implL s) h6
  rw [e] at hr
  have := (gN_spec s 0 (by omega)).rd _ _ rfl (by omega) hr
  rw [unfold_fold] at this
  exact this
theorem both_L {s : ByteArray} (hs : s.size ≤ 8000) (h : okL s = true) : specL s = some (implL s) := by
  obtain ⟨h1, h2⟩ := head_ok hs h
  have h6 : (implL s).length ≤ 6 := by
    unfold okL at h; simp only [Bool.and_eq_true] at h; exact treeR_le h.1
  unfold specL
  rw [if_pos ⟨h2, by omega, by omega⟩]
  have e : implL s = (rdFs s (min (gN s 0).1.toNat 6) (gN s 0).2.1).getD [] := by
    unfold implL; rw [if_neg (by omega)]
  have e2 : min (gN s 0).1.toNat 6 = (gN s 0).1.toNat := by omega
  rw [e2] at e
  cases h3 : rdFs s (gN s 0).1.toNat (gN s 0).2.1 with
  | some l => rw [h3] at e; rw [e]; rfl
  | none =>
    rw [h3] at e
    have e3 : (implL s).length = 0 := by rw [e]; rfl
    have e4 : (gN s 0).1.toNat = 0 := by omega
    rw [e4] at h3
    simp [rdFs] at h3
/-- What the model takes, the program takes. -/
theorem spec_L {s : ByteArray} {l : List Fl} (h : specL s = some l) : implL s = l := by
  unfold specL at h
  split at h
  · rename_i hc
    unfold implL
    rw [if_neg (by omega), show min (gN s 0).1.toNat 6 = (gN s 0).1.toNat by omega, h]; rfl
  · cases h
end Go.Proofs.YtjgkekgieodhnaaDoor.Tre

/- The reader's text, with the place behind it; and how many. -/
namespace Go.Proofs.YtjgkekgieodhnaaDoor.Tre
open Go.RowKit Go.Proofs.YtjgkekgieodhnaaDoor.Mem Go.Proofs.YtjgkekgieodhnaaDoor.Gf Go.Proofs.YtjgkekgieodhnaaDoor.Harn Go.Proofs.YtjgkekgieodhnaaDoor.Disk Go.Proofs.YtjgkekgieodhnaaDoor.GetText Go.Proofs.YtjgkekgieodhnaaDoor.Frm

set_option maxRecDepth 100000 in
set_option maxHeartbeats 2000000 in
theorem text2_any (R : Nat) (s : ByteArray) (a : Int) (t : ByteArray) (p c : Int) (b : Bool) (w : World) (hr : Rdr w R s a b) (hn : TxtX s a t p c) :
    Calls Tryd.prog 11 #[.pointer (some ⟨R, 0, none⟩)] w fun e w' => e = .returned (.string (if b = false then t else ByteArray.empty)) ∧ Rdr w' R s (if b = false ∧ c = 0 then p else a) (b || decide (c ≠ 0)) ∧ Only (fun k => k = R) w w' := by
  obtain ⟨N0, hN0⟩ : ∃ N0, N0 = (if b = false then t else ByteArray.empty) := ⟨_, rfl⟩
  obtain ⟨A0, hA0⟩ : ∃ A0, A0 = (if b = false ∧ c = 0 then p else a) := ⟨_, rfl⟩
  obtain ⟨B0, hB0⟩ : ∃ B0, B0 = (b || decide (c ≠ 0)) := ⟨_, rfl⟩
  rw [← hN0, ← hA0, ← hB0]
  have HN0 : Hid _ := hN0
  have HA0 : Hid _ := hA0
  have HB0 : Hid _ := hB0
  clear hN0 hA0 hB0
  obtain ⟨c0, c1, c2, cf⟩ := hr.cells
  have hR := hr.lt
  have HR : Hid (Rdr w R s a b) := hr
  have HG : Hid (∀ W, Texts 21 s a t p c W) := hn.sp
  have HNO : Hid (c ≠ 0 → t = ByteArray.empty) := hn.none
  clear hr hn
  go_enter Tryd.func11, Tryd.ntmps11
  go_upto_region 1 with fail
  go_cut [3] (fun bv wx => ∃ B, bv = .pointer (some ⟨B, 0, none⟩) ∧ HasRow wx B [.string t, .int .i64 p, .int .i64 c] 47 ∧ w.heap.size ≤ B ∧ Below w.heap.size w wx)
  case first =>
    go_region_with (go_at_call 21; refine (HG.out _).mono ?_; rintro e w1 ⟨rfl, hb1⟩; obtain ⟨hcc, hff⟩ := bcell hb1; simp at hcc hff; have hz1 := hb1.size; simp at hz1; have HBW := shutN (below_in (w := w) hb1); (first | (have HX := shutN (row_inT (w := w) hb1)) | skip); clear hb1)
    all_goals
      go_wp2
      go_meet
      first
        | exact ⟨w.heap.size, rfl, row_set (row_set (row_set HX.out 0 (.string t)) 1 (.int .i64 p)) 2 (.int .i64 c), Nat.le_refl _, ((HBW.out.setCell (p := ⟨w.heap.size, 0, none⟩) (Nat.le_refl _) _).setCell (p := ⟨w.heap.size, 1, none⟩) (Nat.le_refl _) _).setCell (p := ⟨w.heap.size, 2, none⟩) (Nat.le_refl _) _⟩
        | exact ⟨w1.heap.size, rfl, Sha.row_new w1 [.string t, .int .i64 p, .int .i64 c] _, by omega, balloc HBW.out _⟩
  case rest =>
  obtain ⟨B, rfl, hrow, hB, hbw⟩ := hcut
  have HRC : Hid (Rdr wc R s a b) := HR.out.below hbw hR
  obtain ⟨k0, k1, k2, kf⟩ := HRC.out.cells
  have m0 : wc.cell? ⟨B, 0, none⟩ = some (.string t) := Mem.cell_of_row hrow 0
  have m1 : wc.cell? ⟨B, 1, none⟩ = some (.int .i64 p) := Mem.cell_of_row hrow 1
  have m2 : wc.cell? ⟨B, 2, none⟩ = some (.int .i64 c) := Mem.cell_of_row hrow 2
  have HO : Hid (Only (fun k => k = R) w wc) := Only.of_below _ hbw
  have hne : ¬ R = B := by omega
  clear hrow hbw HG HR c0 c1 c2 cf
  cases b
  · by_cases hc : c = 0
    · have HC : Hid (N0 = t ∧ A0 = p ∧ B0 = false) := ⟨by rw [HN0.out]; simp, by rw [HA0.out]; simp [hc], by rw [HB0.out]; simp [hc]⟩
      subst hc
      go_wp2
      go_ret
      exact ⟨PutNum.ret_str HC.out.1.symm, by rw [HC.out.2.1, HC.out.2.2]; exact row_set HRC.out 1 (.int .i64 p), HO.out.trans (only_setR rfl)⟩
    · have e1 : (c != 0) = true := bne_iff_ne.2 hc
      have HC : Hid (N0 = ByteArray.empty ∧ A0 = a ∧ B0 = true) := ⟨by rw [HN0.out, HNO.out hc]; simp, by rw [HA0.out]; simp [hc], by rw [HB0.out]; simp [hc]⟩
      go_wp2
      go_ret
      exact ⟨PutNum.ret_str HC.out.1.symm, by rw [HC.out.2.1, HC.out.2.2]; exact row_set HRC.out 2 (.bool true), HO.out.trans (only_setR rfl)⟩
  · have HC : Hid (N0 = ByteArray.empty ∧ A0 = a ∧ B0 = true) := ⟨by rw [HN0.out]; simp, by rw [HA0.out]; simp, by rw [HB0.out]; simp⟩
    go_wp2
    go_ret
    exact ⟨PutNum.ret_str HC.out.1.symm, by rw [HC.out.2.1, HC.out.2.2]; exact row_set HRC.out 2 (.bool true), HO.out.trans (only_setR rfl)⟩

/-- so many, at most 'most' -/
theorem many_any (R : Nat) (s : ByteArray) (a n p c : Int) (w : World) (hr : Rdr w R s a false) (hn : NumX s a n p c) :
    Calls Tryd.prog 10 #[.pointer (some ⟨R, 0, none⟩), .int .i64 6] w fun e w' => ((c = 0 ∧ 0 ≤ n ∧ n ≤ 6) ∧ e = .returned (.int .i64 n) ∧ Rdr w' R s p false ∨ ¬ (c = 0 ∧ 0 ≤ n ∧ n ≤ 6) ∧ e = .returned (.int .i64 0) ∧ ∃ a', Rdr w' R s a' true) ∧ Only (fun k => k = R) w w' := by
  have K1 := shutN (num_any R s a n p c false w hr hn.num)
  clear hr hn
  by_cases hc : c = 0
  · subst hc
    have K1' : Hid (Calls Tryd.prog 12 #[.pointer (some ⟨R, 0, none⟩)] w fun e w' => e = .returned (.int .i64 n) ∧ Rdr w' R s p false ∧ Only (fun k => k = R) w w') := by
      unfold Hid; have := K1.out; simpa using this
    clear K1
    by_cases hb : 0 ≤ n ∧ n ≤ 6
    · have KI : Hid (∀ W, Calls Tryd.prog 20 #[.int .i64 n, .int .i64 0, .int .i64 6] W fun e w' => e = .returned (.bool true) ∧ W = w') := fun W => by
        have := l05Is_any n 0 6 W
        rwa [show isB n 0 6 = true by simp [isB]; exact hb] at this
      go_enter Tryd.func10, Tryd.ntmps10
      go_wp2_with fail
      refine K1'.out.mono ?_
      rintro e w1 ⟨rfl, hr1, ho1⟩
      have HR1 := shutN hr1
      have HO1 := shutN ho1
      clear hr1 ho1
      go_wp2_with (go_at_call 20; refine (KI.out _).mono ?_; rintro e w2 ⟨rfl, rfl⟩)
      go_ret
      exact ⟨.inl ⟨⟨by first | rfl | trivial, hb⟩, rfl, HR1.out⟩, HO1.out⟩
    · have KI : Hid (∀ W, Calls Tryd.prog 20 #[.int .i64 n, .int .i64 0, .int .i64 6] W fun e w' => e = .returned (.bool false) ∧ W = w') := fun W => by
        have := l05Is_any n 0 6 W
        rwa [show isB n 0 6 = false by simp [isB]; omega] at this
      go_enter Tryd.func10, Tryd.ntmps10
      go_wp2_with fail
      refine K1'.out.mono ?_
      rintro e w1 ⟨rfl, hr1, ho1⟩
      have HR1 := shutN hr1
      have HO1 := shutN ho1
      obtain ⟨k0, k1, k2, kf⟩ := hr1.cells
      clear hr1 ho1
      go_wp2_with (go_at_call 20; refine (KI.out _).mono ?_; rintro e w2 ⟨rfl, rfl⟩)
      go_ret
      exact ⟨.inr ⟨fun h => hb h.2, rfl, p, row_set HR1.out 2 (.bool true)⟩, HO1.out.trans (only_setR rfl)⟩
  · have K1' : Hid (Calls Tryd.prog 12 #[.pointer (some ⟨R, 0, none⟩)] w fun e w' => e = .returned (.int .i64 0) ∧ Rdr w' R s a true ∧ Only (fun k => k = R) w w') := by
      unfold Hid; have := K1.out; simpa [hc] using this
    clear K1
    have KI : Hid (∀ W, Calls Tryd.prog 20 #[.int .i64 0, .int .i64 0, .int .i64 6] W fun e w' => e = .returned (.bool true) ∧ W = w') := fun W => by
      have := l05Is_any 0 0 6 W
      rwa [show isB 0 0 6 = true by simp [isB]] at this
    go_enter Tryd.func10, Tryd.ntmps10
    go_wp2_with fail
    refine K1'.out.mono ?_
    rintro e w1 ⟨rfl, hr1, ho1⟩
    have HR1 := shutN hr1
    have HO1 := shutN ho1
    clear hr1 ho1
    go_wp2_with (go_at_call 20; refine (KI.out _).mono ?_; rintro e w2 ⟨rfl, rfl⟩)
    go_ret
    exact ⟨.inr ⟨fun h => hc h.1, rfl, a, HR1.out⟩, HO1.out⟩
end Go.Proofs.YtjgkekgieodhnaaDoor.Tre
