/- What FnNums meets on its road besides. -/
import Derived.Test.YtednbehelcfopaaDoorNumRound
import Derived.Test.YtednbehelcfopaaDoorImplGetText
import Derived.Test.YtednbehelcfopaaDoorPutText
import Derived.Test.YtednbehelcfopaaDoorDrawNums
namespace Go.Proofs.YtednbehelcfopaaDoor.NumsLaws
open Go.RowKit Go.Proofs.YtednbehelcfopaaDoor.Mem Go.Proofs.YtednbehelcfopaaDoor.GetNum Go.Proofs.YtednbehelcfopaaDoor.GetText Go.Proofs.YtednbehelcfopaaDoor.PutNum Go.Proofs.YtednbehelcfopaaDoor.PutText Go.Proofs.YtednbehelcfopaaDoor.NumRound Go.Proofs.YtednbehelcfopaaDoor.Draw

theorem data_app (s t : ByteArray) : (s ++ t).data.toList = s.data.toList ++ t.data.toList := by simp
theorem data_len (s : ByteArray) : s.data.toList.length = s.size := rfl

/-- The bytes of a number stand in a text behind 'pre'. -/
theorem rd_in (pre post : ByteArray) (n : Int) (h1 : -9223372036854775808 ≤ n) (h2 : n ≤ 9223372036854775807) : rd (pre ++ numB n ++ post) pre.size = (0, foldN n, pre.size + (numB n).size) := by
  have hl : (numB n).data.toList = putF 9 (foldN n) := rfl
  have hz : (numB n).size = (putF 9 (foldN n)).length := by rw [← hl]; rfl
  rw [hz]
  refine rd_put _ _ _ (foldN_lt n h1 h2) ?_ ?_
  · rw [ByteArray.size_append, ByteArray.size_append, hz]; omega
  · intro i hi
    rw [NumRound.at_list, data_app, data_app, hl, List.append_assoc, List.getElem?_append_right (by rw [data_len]; omega), data_len, Nat.add_sub_cancel_left, List.getElem?_append_left hi]

/-- The bytes of a number without the last one. -/
theorem rd_off (n : Int) (h1 : -9223372036854775808 ≤ n) (h2 : n ≤ 9223372036854775807) : rd ((numB n).extract 0 ((numB n).size - 1)) 0 = (4, 0, 0) := by
  have hl : (numB n).data.toList = putF 9 (foldN n) := rfl
  have hz : (numB n).size = (putF 9 (foldN n)).length := by rw [← hl]; rfl
  have hp := (length_putF 9 (foldN n)).1
  refine rd_cut _ _ _ (foldN_lt n h1 h2) ?_ ?_
  · rw [ByteArray.size_extract, hz]; omega
  · intro i hi
    rw [NumRound.at_list, Nat.zero_add, Lib.extract_data, hl, hz]
    rw [List.drop_zero, Nat.sub_zero, List.getElem?_take_of_lt (by omega)]

/-- GetNum, by what 'rd' says. -/
theorem getNum_ok (s : ByteArray) (a y q : Nat) (w : World) (hs : (s.size : Int) ≤ 8000) (ha : (a : Int) ≤ 9223372036854775807) (hy : y < 18446744073709551616) (hr : rd s a = (0, y, q)) :
    Calls Tryd.prog 7 #[.string s, .int .i64 a] w fun e w' => e = .returned (.agg #[.int .i64 (unfoldI y), .int .i64 (q : Nat), .int .i64 0]) ∧ Below w.heap.size w w' := by
  refine implGetNum_ok s a w y q hs (by omega) (fun w => ?_)
  have := readNum_in s a w hs ha
  rwa [readV_ok hr] at this

theorem getNum_no (s : ByteArray) (a c : Nat) (w : World) (hL : Laid w) (hs : (s.size : Int) ≤ 8000) (ha : (a : Int) ≤ 9223372036854775807) (hr : rd s a = (c, 0, 0)) (hc : c ≠ 0) :
    Calls Tryd.prog 7 #[.string s, .int .i64 a] w fun e w' => e = .returned (.agg #[.int .i64 0, .int .i64 0, .int .i64 (c : Nat)]) ∧ Below w.heap.size w w' := by
  refine implGetNum_code s a w c hs hL (fun w => ?_)
  have := readNum_in s a w hs ha
  have hne : (rd s a).1 ≠ 0 := by rw [hr]; exact hc
  rwa [readV_code hne, hr] at this

theorem ba_ext {a b : ByteArray} (h : a.data.toList = b.data.toList) : a = b := by
  apply ByteArray.ext; exact Array.ext' h

theorem textB_size (u : ByteArray) : (textB u).size = (numB (u.size : Nat)).size + u.size := by unfold textB; rw [ByteArray.size_append]

theorem numB_pos (n : Int) : 1 ≤ (numB n).size := (length_numL n).1

/-- One letter ahead of a text's bytes: the text is got back. -/
theorem getText_back (x : ByteArray) (hx : x.size = 1) (u : ByteArray) (w : World) (hL : Laid w) (hu : (textB u).size + 1 ≤ 8000) :
    Texts 11 (x ++ textB u) 1 u (((textB u).size + 1 : Nat) : Int) 0 w := by
  have hz := textB_size u
  have hs : (x ++ textB u).size = (textB u).size + 1 := by rw [ByteArray.size_append, hx, Nat.add_comm]
  have e : x ++ textB u = x ++ numB (u.size : Nat) ++ u := by
    apply ba_ext
    unfold textB
    rw [data_app, data_app, data_app, data_app, List.append_assoc]
  have hr := rd_in x u (u.size : Nat) (by omega) (by omega)
  rw [← e, hx] at hr
  have hf := foldN_lt (u.size : Nat) (by omega) (by omega)
  have K : ∀ w, Laid w → Gets 7 (x ++ textB u) 1 (u.size : Nat) ((1 + (numB (u.size : Nat)).size : Nat) : Int) 0 w := by
    intro w _
    have := getNum_ok (x ++ textB u) 1 _ _ w (by omega) (by omega) hf hr
    rwa [unfold_fold] at this
  have := impl_ok (x ++ textB u) 1 u.size (1 + (numB (u.size : Nat)).size) w hL (by omega) (by omega) (by omega) K
  have ex : (x ++ textB u).extract (1 + (numB (u.size : Nat)).size) (1 + (numB (u.size : Nat)).size + u.size) = u := by
    apply ba_ext
    have hxl : x.data.toList.length = 1 := hx
    have hnl : (numB (u.size : Nat)).data.toList.length = (numB (u.size : Nat)).size := rfl
    have hul : u.data.toList.length = u.size := rfl
    rw [Lib.extract_data, e, data_app, data_app, show 1 + (numB (u.size : Nat)).size = (x.data.toList ++ (numB (u.size : Nat)).data.toList).length by rw [List.length_append, hxl, hnl], List.drop_left, List.take_of_length_le (by omega)]
  rw [ex, show 1 + (numB (u.size : Nat)).size + u.size = (textB u).size + 1 by omega] at this
  exact this

/-- A text's bytes without the last one: nothing is got. -/
theorem getText_off (u : ByteArray) (w : World) (hL : Laid w) (hu : (textB u).size + 1 ≤ 8000) :
    Texts 11 ((textB u).extract 0 ((textB u).size - 1)) 0 ByteArray.empty 0 4 w := by
  have hz := textB_size u
  have hnp := numB_pos (u.size : Nat)
  have hs : ((textB u).extract 0 ((textB u).size - 1)).size = (textB u).size - 1 := by rw [ByteArray.size_extract]; omega
  have hul : u.data.toList.length = u.size := rfl
  have hnl : (numB (u.size : Nat)).data.toList.length = (numB (u.size : Nat)).size := rfl
  have ht : (textB u).data.toList = (numB (u.size : Nat)).data.toList ++ u.data.toList := data_app _ _
  by_cases h0 : u.size = 0
  · have hn : u.data.toList = [] := List.eq_nil_of_length_eq_zero (by omega)
    have e : (textB u).extract 0 ((textB u).size - 1) = (numB (u.size : Nat)).extract 0 ((numB (u.size : Nat)).size - 1) := by
      apply ba_ext
      rw [Lib.extract_data, Lib.extract_data, ht, hn, List.append_nil, hz, h0, Nat.add_zero]
    have hr := rd_off (u.size : Nat) (by omega) (by omega)
    rw [← e] at hr
    have K : ∀ w, Laid w → Gets 7 ((textB u).extract 0 ((textB u).size - 1)) 0 0 0 4 w := fun w hw => getNum_no _ 0 4 w hw (by omega) (by omega) hr (by decide)
    exact impl_code _ 0 0 0 4 w hL (by decide) K
  · have e : (textB u).extract 0 ((textB u).size - 1) = ByteArray.empty ++ numB (u.size : Nat) ++ u.extract 0 (u.size - 1) := by
      apply ba_ext
      rw [Lib.extract_data, data_app, data_app, Lib.extract_data, ht, List.drop_zero, Nat.sub_zero, List.drop_zero, Nat.sub_zero, hz, List.take_append, hnl, List.take_of_length_le (by omega), show (numB (u.size : Nat)).size + u.size - 1 - (numB (u.size : Nat)).size = u.size - 1 by omega]
      rfl
    have hr := rd_in ByteArray.empty (u.extract 0 (u.size - 1)) (u.size : Nat) (by omega) (by omega)
    rw [← e] at hr
    have hes : ByteArray.empty.size = 0 := rfl
    rw [hes, Nat.zero_add] at hr
    have hf := foldN_lt (u.size : Nat) (by omega) (by omega)
    have K : ∀ w, Laid w → Gets 7 ((textB u).extract 0 ((textB u).size - 1)) 0 (u.size : Nat) ((numB (u.size : Nat)).size : Nat) 0 w := by
      intro w _
      have := getNum_ok _ 0 _ _ w (by omega) (by omega) hf hr
      rwa [unfold_fold] at this
    exact impl_short _ 0 u.size (numB (u.size : Nat)).size w hL (by omega) (by omega) (by omega) (by omega) K
end Go.Proofs.YtednbehelcfopaaDoor.NumsLaws
