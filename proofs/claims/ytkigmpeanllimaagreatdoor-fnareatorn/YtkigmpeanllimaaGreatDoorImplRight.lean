/- What the program's DiskRight answers. -/
import Derived.Test.YtkigmpeanllimaaGreatDoorTextsC
namespace Go.Proofs.YtkigmpeanllimaaGreatDoor.Disk
open Go.RowKit Go.Proofs.YtkigmpeanllimaaGreatDoor.Mem Go.Proofs.YtkigmpeanllimaaGreatDoor.Harn

set_option maxRecDepth 100000 in
set_option maxHeartbeats 2000000 in
theorem implRight_any (vs vp : Value) (ls : List ByteArray) (lp : List (Int × ByteArray)) (w : World) (hs : Strs w vs ls) (hp : Pends w vp lp) (h1 : ls.length ≤ 1100000) (h2 : lp.length ≤ 1100000) (h3 : ∀ t ∈ ls, t.size ≤ maxLen) (h4 : ∀ y ∈ lp, y.2.size ≤ maxLen ∧ -9223372036854775808 ≤ y.1 ∧ y.1 ≤ 9223372036854775807) :
    Calls Tryz.prog 35 #[.agg #[vs, vp]] w fun e w' => e = .returned (.bool (rightB ls lp)) ∧ Below w.heap.size w w' := by
  obtain ⟨a, cap, rfl, hc⟩ := hs
  obtain ⟨a2, cap2, rfl, hc2⟩ := hp
  have HC : Hid (∀ j (h : j < ls.length), ∃ b o, a = some ⟨b, o, none⟩ ∧ w.cell? ⟨b, o + j, none⟩ = some (.string ls[j])) := hc
  have HC2 : Hid (∀ j (h : j < lp.length), ∃ b o, a2 = some ⟨b, o, none⟩ ∧ w.cell? ⟨b, o + j * 2, none⟩ = some (.int .i64 lp[j].1) ∧ w.cell? ⟨b, o + j * 2 + 1, none⟩ = some (.string lp[j].2)) := hc2
  have H3 : Hid (∀ t ∈ ls, t.size ≤ maxLen) := h3
  have H4 : Hid (∀ y ∈ lp, y.2.size ≤ maxLen ∧ -9223372036854775808 ≤ y.1 ∧ y.1 ≤ 9223372036854775807) := h4
  clear hc hc2 h3 h4
  have HB0 : Hid (Below w.heap.size w (w.alloc (.cells #[.slice a ls.length cap, .slice a2 lp.length cap2] 26))) := (Below.refl _ _).alloc (Nat.le_refl _) _
  by_cases n0 : ls.length < 1
  · rw [right_no (by unfold Right; omega)]
    go_enter Tryz.func35, Tryz.ntmps35
    go_wp2
    go_ret
    exact ⟨rfl, HB0.out⟩
  by_cases n1 : 64 < ls.length
  · rw [right_no (by unfold Right; omega)]
    go_enter Tryz.func35, Tryz.ntmps35
    go_wp2
    go_ret
    exact ⟨rfl, HB0.out⟩
  by_cases n2 : 200 < lp.length
  · rw [right_no (by unfold Right; omega)]
    go_enter Tryz.func35, Tryz.ntmps35
    go_wp2
    go_ret
    exact ⟨rfl, HB0.out⟩
  have r1 : decide ((ls.length : Int) < 1) = false := decide_eq_false (by omega)
  have r2 : decide (64 < (ls.length : Int)) = false := decide_eq_false (by omega)
  have r3 : decide (200 < (lp.length : Int)) = false := decide_eq_false (by omega)
  go_enter Tryz.func35, Tryz.ntmps35
  go_wp2_with fail
  go_loopw [26] (fun i wr => wr = w.alloc (.cells #[.slice a ls.length cap, .slice a2 lp.length cap2] 26) ∧ ∃ k : Nat, k ≤ ls.length ∧ i = .int .i64 k ∧ Hid (∀ t ∈ ls.take k, t.size ≤ 64)) (fun i _ => ls.length - (intOf i).toNat)
  case atStart => exact ⟨rfl, 0, by omega, rfl, fun t ht => by simp at ht⟩
  case round =>
    obtain ⟨rfl, k, hk, rfl, HT⟩ := hrel
    by_cases hlt : k < ls.length
    · obtain ⟨b, o, rfl, c0⟩ := HC.out k hlt
      have c1 : (w.alloc (.cells #[.slice (some ⟨b, o, none⟩) ls.length cap, .slice a2 lp.length cap2] 26)).cell? ⟨b, o + k, none⟩ = some (.string ls[k]) := (World.cell?_alloc_lt _ _ _ (World.block_lt_of_cell? w _ c0)).trans c0
      have hbn : ¬ b = w.heap.size := by have := World.block_lt_of_cell? w _ c0; simp at this; omega
      have hts : ls[k].size ≤ 9223372036854775807 := H3.out _ (List.getElem_mem hlt)
      have p1 : (k : Int) < (ls.length : Int) := by omega
      have HTK : Hid (ls.take (k + 1) = ls.take k ++ [ls[k]]) := List.take_succ_eq_append_getElem hlt
      have HMEM : Hid (ls[k] ∈ ls) := List.getElem_mem hlt
      generalize ls[k] = t at *
      by_cases hb : t.size ≤ 64
      · go_wp2
        go_roundw
        case rel => exact ⟨by simp, k + 1, by omega, by go_num, fun u hu => by rw [HTK.out, List.mem_append, List.mem_singleton] at hu; rcases hu with hu | rfl; exact HT.out u hu; exact hb⟩
        case measure => simp [intOf]; omega
      · have HNO : Hid (Ending.returned (.bool (rightB ls lp)) = .returned (.bool false)) := by unfold Hid; rw [right_no (by intro hr; exact hb (hr.2.2.2.1 t HMEM.out))]
        go_wp2
        go_ret
        exact ⟨HNO.out.symm, HB0.out⟩
    · have ek : k = ls.length := by omega
      subst ek
      rw [List.take_length] at HT
      clear hk hlt
      go_wp2_with fail
      go_loopw [37] (fun i wr => ∃ k : Nat, k ≤ lp.length ∧ i = .int .i64 k ∧ Below w.heap.size w wr ∧ w.heap.size < wr.heap.size ∧ HasRow wr w.heap.size [.slice a ls.length cap, .slice a2 lp.length cap2] 26 ∧ Hid (∀ y ∈ lp.take k, okP ls.length y)) (fun i _ => lp.length - (intOf i).toNat)
      case atStart => exact ⟨0, by omega, rfl, HB0.out, by simp, Sha.row_new w [.slice a ls.length cap, .slice a2 lp.length cap2] 26, fun t ht => by simp at ht⟩
      case round =>
        obtain ⟨k, hk, rfl, hbel, hsz, hrow, HY⟩ := hrel
        by_cases hlt : k < lp.length
        · obtain ⟨b, o, rfl, d1, d2⟩ := HC2.out k hlt
          have c1 : wr.cell? ⟨b, o + k * 2, none⟩ = _ := (hbel.cell (World.block_lt_of_cell? w _ d1)).trans d1
          have c2 : wr.cell? ⟨b, o + k * 2 + 1, none⟩ = _ := (hbel.cell (World.block_lt_of_cell? w _ d2)).trans d2
          obtain ⟨q1, q2, q3⟩ := H4.out _ (List.getElem_mem hlt)
          have q1' : lp[k].2.size ≤ 9223372036854775807 := q1
          have p1 : (k : Int) < (lp.length : Int) := by omega
          have HTK : Hid (lp.take (k + 1) = lp.take k ++ [lp[k]]) := List.take_succ_eq_append_getElem hlt
          have HMEM : Hid (lp[k] ∈ lp) := List.getElem_mem hlt
          have HNO : Hid (¬ okP ls.length lp[k] → Ending.returned (.bool (rightB ls lp)) = .returned (.bool false)) := fun h => by rw [right_no (by intro hr; exact h (hr.2.2.2.2 _ HMEM.out))]
          have HOK : Hid (okP ls.length lp[k] ↔ (0 ≤ lp[k].1 ∧ lp[k].1 < ls.length ∧ lp[k].2.size ≤ 64)) := Iff.rfl
          generalize lp[k] = y at *
          generalize y.1 = x at *
          generalize y.2 = t at *
          have z0 : (wr.alloc (.cells #[.int .i64 x, .string t] 78)).cell? ⟨w.heap.size, 0, none⟩ = some (.slice a ls.length cap) := (World.cell?_alloc_lt _ _ _ hsz).trans (Mem.cell_of_row hrow 0)
          have z1 : (wr.alloc (.cells #[.int .i64 x, .string t] 78)).cell? ⟨w.heap.size, 1, none⟩ = some (.slice (some ⟨b, o, none⟩) lp.length cap2) := (World.cell?_alloc_lt _ _ _ hsz).trans (Mem.cell_of_row hrow 1)
          have HB1 : Hid (Below w.heap.size w (wr.alloc (.cells #[.int .i64 x, .string t] 78))) := bA hbel _
          have HROW : Hid _ := hrow
          clear d1 d2 q1 HMEM hbel hrow
          by_cases hin : 0 ≤ x ∧ x < (ls.length : Int)
          · have KI : Hid (∀ W, Calls Tryz.prog 64 #[.agg #[.slice a ls.length cap, .slice (some ⟨b, o, none⟩) lp.length cap2], .int .i64 x] W fun e w' => e = .returned (.bool true) ∧ Below W.heap.size W w') := fun W => has_yes _ _ _ _ _ W hin.1 hin.2
            by_cases hb : t.size ≤ 64
            · have hd : decide (64 < (t.size : Int)) = false := decide_eq_false (by omega)
              go_wp2_with (go_at_call 64; refine (KI.out _).mono ?_; rintro e w1 ⟨rfl, hb1⟩; obtain ⟨hcc, hff⟩ := bcell hb1; simp at hcc hff; have HB2 : Hid _ := hb1; have hz1 := hb1.size; simp at hz1; clear hb1)
              go_roundw
              case rel => exact ⟨k + 1, by omega, by go_num, bT HB1.out HB2.out, by omega, Sha.row_below (Sha.row_alloc HROW.out _) HB2.out (by simp; omega), fun u hu => by rw [HTK.out, List.mem_append, List.mem_singleton] at hu; rcases hu with hu | rfl; exact HY.out u hu; exact HOK.out.2 ⟨hin.1, hin.2, hb⟩⟩
              case measure => simp [intOf]; omega
            · have hd : decide (64 < (t.size : Int)) = true := decide_eq_true (by omega)
              have HE : Hid (Ending.returned (.bool (rightB ls lp)) = .returned (.bool false)) := HNO.out (by rw [HOK.out]; omega)
              go_wp2_with (go_at_call 64; refine (KI.out _).mono ?_; rintro e w1 ⟨rfl, hb1⟩; obtain ⟨hcc, hff⟩ := bcell hb1; simp at hcc hff; have HB2 : Hid _ := hb1; clear hb1)
              go_ret
              exact ⟨HE.out.symm, bT HB1.out HB2.out⟩
          · have KI : Hid (∀ W, Calls Tryz.prog 64 #[.agg #[.slice a ls.length cap, .slice (some ⟨b, o, none⟩) lp.length cap2], .int .i64 x] W fun e w' => e = .returned (.bool false) ∧ Below W.heap.size W w') := fun W => has_no _ _ _ _ _ W (by omega)
            have HE : Hid (Ending.returned (.bool (rightB ls lp)) = .returned (.bool false)) := HNO.out (by rw [HOK.out]; omega)
            go_wp2_with (go_at_call 64; refine (KI.out _).mono ?_; rintro e w1 ⟨rfl, hb1⟩; have HB2 : Hid _ := hb1; clear hb1)
            go_ret
            exact ⟨HE.out.symm, bT HB1.out HB2.out⟩
        · have ek : k = lp.length := by omega
          subst ek
          rw [List.take_length] at HY
          have HE : Hid (Ending.returned (.bool (rightB ls lp)) = .returned (.bool true)) := by unfold Hid; rw [right_yes ⟨by omega, by omega, by omega, HT.out, HY.out⟩]
          go_wp2
          go_ret
          exact ⟨HE.out.symm, hbel⟩
end Go.Proofs.YtkigmpeanllimaaGreatDoor.Disk
