/- What the model's DiskRight answers. -/
import Derived.Test.YtkigmpeanllimaaGreatDoorTextsB
namespace Go.Proofs.YtkigmpeanllimaaGreatDoor.Disk
open Go.RowKit Go.Proofs.YtkigmpeanllimaaGreatDoor.Mem Go.Proofs.YtkigmpeanllimaaGreatDoor.Harn

/-- A pending write that may stand on a disk of so many sectors. -/
def okP (n : Nat) (y : Int × ByteArray) : Prop := 0 ≤ y.1 ∧ y.1 < n ∧ y.2.size ≤ 64
/-- Is the disk right? -/
def Right (ls : List ByteArray) (lp : List (Int × ByteArray)) : Prop := 1 ≤ ls.length ∧ ls.length ≤ 64 ∧ lp.length ≤ 200 ∧ (∀ t ∈ ls, t.size ≤ 64) ∧ ∀ y ∈ lp, okP ls.length y
def okPB (n : Nat) (y : Int × ByteArray) : Bool := decide (0 ≤ y.1) && decide (y.1 < n) && decide (y.2.size ≤ 64)
def rightB (ls : List ByteArray) (lp : List (Int × ByteArray)) : Bool := decide (1 ≤ ls.length) && decide (ls.length ≤ 64) && decide (lp.length ≤ 200) && ls.all (fun t => decide (t.size ≤ 64)) && lp.all (okPB ls.length)
theorem right_iff (ls : List ByteArray) (lp : List (Int × ByteArray)) : rightB ls lp = true ↔ Right ls lp := by
  simp only [rightB, Right, okPB, okP, Bool.and_eq_true, decide_eq_true_eq, List.all_eq_true, and_assoc]
theorem right_yes {ls : List ByteArray} {lp : List (Int × ByteArray)} (h : Right ls lp) : rightB ls lp = true := (right_iff ls lp).2 h
theorem right_no {ls : List ByteArray} {lp : List (Int × ByteArray)} (h : ¬ Right ls lp) : rightB ls lp = false := by
  cases e : rightB ls lp with
  | false => rfl
  | true => exact absurd ((right_iff ls lp).1 e) h

theorem is_yes (n lo hi : Int) (w : World) (h1 : lo ≤ n) (h2 : n ≤ hi) : Calls Tryz.prog 65 #[.int .i64 n, .int .i64 lo, .int .i64 hi] w fun e w' => e = .returned (.bool true) ∧ w' = w := by
  go_enter Tryz.func65, Tryz.ntmps65
  go_wp2
  go_ret
  exact ⟨rfl, rfl⟩
theorem is_no (n lo hi : Int) (w : World) (h : n < lo ∨ hi < n) : Calls Tryz.prog 65 #[.int .i64 n, .int .i64 lo, .int .i64 hi] w fun e w' => e = .returned (.bool false) ∧ w' = w := by
  by_cases h1 : n < lo
  · go_enter Tryz.func65, Tryz.ntmps65
    go_wp2
    go_ret
    exact ⟨rfl, rfl⟩
  · have h2 : hi < n := by omega
    have h3 : lo ≤ n := by omega
    have h4 : decide (n ≤ hi) = false := decide_eq_false (by omega)
    have h5 : ¬ n ≤ hi := by omega
    clear h h1
    go_enter Tryz.func65, Tryz.ntmps65
    go_wp2
    go_ret
    exact ⟨rfl, rfl⟩

set_option maxRecDepth 100000 in
set_option maxHeartbeats 2000000 in
theorem specRight_any (vs vp : Value) (ls : List ByteArray) (lp : List (Int × ByteArray)) (w : World) (hs : Strs w vs ls) (hp : Pends w vp lp) (h1 : ls.length ≤ 1100000) (h2 : lp.length ≤ 1100000) (h3 : ∀ t ∈ ls, t.size ≤ maxLen) (h4 : ∀ y ∈ lp, y.2.size ≤ maxLen ∧ -9223372036854775808 ≤ y.1 ∧ y.1 ≤ 9223372036854775807) :
    Calls Tryz.prog 36 #[.agg #[vs, vp]] w fun e w' => e = .returned (.bool (rightB ls lp)) ∧ Below w.heap.size w w' := by
  obtain ⟨a, cap, rfl, hc⟩ := hs
  obtain ⟨a2, cap2, rfl, hc2⟩ := hp
  have HC : Hid (∀ j (h : j < ls.length), ∃ b o, a = some ⟨b, o, none⟩ ∧ w.cell? ⟨b, o + j, none⟩ = some (.string ls[j])) := hc
  have HC2 : Hid (∀ j (h : j < lp.length), ∃ b o, a2 = some ⟨b, o, none⟩ ∧ w.cell? ⟨b, o + j * 2, none⟩ = some (.int .i64 lp[j].1) ∧ w.cell? ⟨b, o + j * 2 + 1, none⟩ = some (.string lp[j].2)) := hc2
  have H3 : Hid (∀ t ∈ ls, t.size ≤ maxLen) := h3
  have H4 : Hid (∀ y ∈ lp, y.2.size ≤ maxLen ∧ -9223372036854775808 ≤ y.1 ∧ y.1 ≤ 9223372036854775807) := h4
  clear hc hc2 h3 h4
  by_cases n1 : 1 ≤ ls.length ∧ ls.length ≤ 64
  · obtain ⟨n1a, n1b⟩ := n1
    have KY : Hid (∀ W, Calls Tryz.prog 65 #[.int .i64 (ls.length : Int), .int .i64 1, .int .i64 64] W fun e w' => e = .returned (.bool true) ∧ w' = W) := fun W => is_yes _ _ _ W (by omega) (by omega)
    by_cases n2 : lp.length ≤ 200
    · go_enter Tryz.func36, Tryz.ntmps36
      go_wp2_with (go_at_call 65; refine (KY.out _).mono ?_; rintro e w' ⟨rfl, rfl⟩)
      go_loopw [3] (fun i wr => wr = w.alloc (.cells #[.slice a ls.length cap, .slice a2 lp.length cap2] 26) ∧ ∃ k : Nat, k ≤ ls.length ∧ i = .int .i64 k ∧ Hid (∀ t ∈ ls.take k, t.size ≤ 64)) (fun i _ => ls.length - (intOf i).toNat)
      case atStart => exact ⟨rfl, 0, by omega, rfl, fun t ht => by simp at ht⟩
      case round =>
        obtain ⟨rfl, k, hk, rfl, HT⟩ := hrel
        by_cases hlt : k < ls.length
        · obtain ⟨b, o, rfl, c0⟩ := HC.out k hlt
          have c1 : (w.alloc (.cells #[.slice (some ⟨b, o, none⟩) ls.length cap, .slice a2 lp.length cap2] 26)).cell? ⟨b, o + k, none⟩ = some (.string ls[k]) := (World.cell?_alloc_lt _ _ _ (World.block_lt_of_cell? w _ c0)).trans c0
          have hbn : ¬ b = w.heap.size := by have := World.block_lt_of_cell? w _ c0; simp at this; omega
          have hts : ls[k].size ≤ 9223372036854775807 := H3.out _ (List.getElem_mem hlt)
          have p1 : (k : Int) < (ls.length : Int) := by omega
          have HTK : Hid (ls.take (k + 1) = ls.take k ++ [ls[k]]) := List.take_succ_eq_append_getElem hlt
          have HMEM : Hid (ls[k] ∈ ls) := List.getElem_mem hlt
          generalize ls[k] = t at *
          by_cases hb : t.size ≤ 64
          · go_wp2
            go_roundw
            case rel => exact ⟨by simp, k + 1, by omega, by go_num, fun u hu => by rw [HTK.out, List.mem_append, List.mem_singleton] at hu; rcases hu with hu | rfl; exact HT.out u hu; exact hb⟩
            case measure => simp [intOf]; omega
          · have HNO : Hid (Ending.returned (.bool (rightB ls lp)) = .returned (.bool false)) := by unfold Hid; rw [right_no (by intro hr; exact hb (hr.2.2.2.1 t HMEM.out))]
            go_wp2
            go_ret
            exact ⟨HNO.out.symm, (Below.refl _ _).alloc (Nat.le_refl _) _⟩
        · have ek : k = ls.length := by omega
          subst ek
          rw [List.take_length] at HT
          clear hk hlt
          go_wp2_with fail
          go_loopw [4] (fun i wr => ∃ m k : Nat, wr = (w.alloc (.cells #[.slice a ls.length cap, .slice a2 lp.length cap2] 26)).drewN m ∧ k ≤ lp.length ∧ i = .int .i64 k ∧ Hid (∀ y ∈ lp.take k, okP ls.length y)) (fun i _ => lp.length - (intOf i).toNat)
          case atStart => exact ⟨0, 0, rfl, by omega, rfl, fun t ht => by simp at ht⟩
          case round =>
            obtain ⟨m, k, rfl, hk, rfl, HY⟩ := hrel
            by_cases hlt : k < lp.length
            · obtain ⟨b, o, rfl, d1, d2⟩ := HC2.out k hlt
              have c1 : (w.alloc (.cells #[.slice a ls.length cap, .slice (some ⟨b, o, none⟩) lp.length cap2] 26)).cell? ⟨b, o + k * 2, none⟩ = some (.int .i64 lp[k].1) := (World.cell?_alloc_lt _ _ _ (World.block_lt_of_cell? w _ d1)).trans d1
              have c2 : (w.alloc (.cells #[.slice a ls.length cap, .slice (some ⟨b, o, none⟩) lp.length cap2] 26)).cell? ⟨b, o + k * 2 + 1, none⟩ = some (.string lp[k].2) := (World.cell?_alloc_lt _ _ _ (World.block_lt_of_cell? w _ d2)).trans d2
              have hbn : ¬ b = w.heap.size := by have := World.block_lt_of_cell? w _ d1; simp at this; omega
              obtain ⟨q1, q2, q3⟩ := H4.out _ (List.getElem_mem hlt)
              have q1' : lp[k].2.size ≤ 9223372036854775807 := q1
              have p1 : (k : Int) < (lp.length : Int) := by omega
              have HTK : Hid (lp.take (k + 1) = lp.take k ++ [lp[k]]) := List.take_succ_eq_append_getElem hlt
              have HMEM : Hid (lp[k] ∈ lp) := List.getElem_mem hlt
              have HNO : Hid (¬ okP ls.length lp[k] → Ending.returned (.bool (rightB ls lp)) = .returned (.bool false)) := fun h => by rw [right_no (by intro hr; exact h (hr.2.2.2.2 _ HMEM.out))]
              have HOK : Hid (okP ls.length lp[k] ↔ (0 ≤ lp[k].1 ∧ lp[k].1 < ls.length ∧ lp[k].2.size ≤ 64)) := Iff.rfl
              generalize lp[k] = y at *
              generalize y.1 = x at *
              generalize y.2 = t at *
              clear d1 d2 q1 HMEM
              by_cases hin : 0 ≤ x ∧ x < (ls.length : Int)
              · have KI : Hid (∀ W, Calls Tryz.prog 65 #[.int .i64 x, .int .i64 0, .int .i64 ((ls.length : Int) - 1)] W fun e w' => e = .returned (.bool true) ∧ w' = W) := fun W => is_yes _ _ _ W (by omega) (by omega)
                by_cases hb : t.size ≤ 64
                · have hd : decide (64 < (t.size : Int)) = false := decide_eq_false (by omega)
                  go_wp2_with fail
                  go_quiet ((go_at_call 65; exact (KI.out _).mono fun _ _ h => ⟨h.1, _, h.2⟩))
                  go_wp2
                  go_roundw
                  case rel => exact ⟨_, k + 1, rfl, by omega, by go_num, fun u hu => by rw [HTK.out, List.mem_append, List.mem_singleton] at hu; rcases hu with hu | rfl; exact HY.out u hu; exact HOK.out.2 ⟨hin.1, hin.2, hb⟩⟩
                  case measure => simp [intOf]; omega
                · have hd : decide (64 < (t.size : Int)) = true := decide_eq_true (by omega)
                  have HE : Hid (Ending.returned (.bool (rightB ls lp)) = .returned (.bool false)) := HNO.out (by rw [HOK.out]; omega)
                  go_wp2_with fail
                  go_quiet ((go_at_call 65; exact (KI.out _).mono fun _ _ h => ⟨h.1, _, h.2⟩))
                  go_wp2
                  go_ret
                  exact ⟨HE.out.symm, Sha.bel_drewN (Sha.bel_drewN ((Below.refl _ _).alloc (Nat.le_refl _) _) _) _⟩
              · have KI : Hid (∀ W, Calls Tryz.prog 65 #[.int .i64 x, .int .i64 0, .int .i64 ((ls.length : Int) - 1)] W fun e w' => e = .returned (.bool false) ∧ w' = W) := fun W => is_no _ _ _ W (by omega)
                have HE : Hid (Ending.returned (.bool (rightB ls lp)) = .returned (.bool false)) := HNO.out (by rw [HOK.out]; omega)
                go_wp2_with fail
                go_quiet ((go_at_call 65; exact (KI.out _).mono fun _ _ h => ⟨h.1, _, h.2⟩))
                go_wp2
                go_ret
                exact ⟨HE.out.symm, Sha.bel_drewN (Sha.bel_drewN ((Below.refl _ _).alloc (Nat.le_refl _) _) _) _⟩
            · have ek : k = lp.length := by omega
              subst ek
              rw [List.take_length] at HY
              have HE : Hid (Ending.returned (.bool (rightB ls lp)) = .returned (.bool true)) := by unfold Hid; rw [right_yes ⟨n1a, n1b, n2, HT.out, HY.out⟩]
              go_wp2
              go_ret
              exact ⟨HE.out.symm, Sha.bel_drewN ((Below.refl _ _).alloc (Nat.le_refl _) _) _⟩
    · rw [right_no (by unfold Right; omega)]
      go_enter Tryz.func36, Tryz.ntmps36
      go_wp2_with (go_at_call 65; refine (KY.out _).mono ?_; rintro e w' ⟨rfl, rfl⟩)
      go_ret
      exact ⟨rfl, (Below.refl _ _).alloc (Nat.le_refl _) _⟩
  · have KN : Hid (∀ W, Calls Tryz.prog 65 #[.int .i64 (ls.length : Int), .int .i64 1, .int .i64 64] W fun e w' => e = .returned (.bool false) ∧ w' = W) := fun W => is_no _ _ _ W (by omega)
    rw [right_no (by unfold Right; omega)]
    go_enter Tryz.func36, Tryz.ntmps36
    go_wp2_with (go_at_call 65; refine (KN.out _).mono ?_; rintro e w' ⟨rfl, rfl⟩)
    go_ret
    exact ⟨rfl, (Below.refl _ _).alloc (Nat.le_refl _) _⟩
end Go.Proofs.YtkigmpeanllimaaGreatDoor.Disk
