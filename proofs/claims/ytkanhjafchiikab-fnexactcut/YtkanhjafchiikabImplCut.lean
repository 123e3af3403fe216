/- What the program's cutting of a text answers, and its small helpers. -/
import Derived.Test.YtkanhjafchiikabSpecSpread2
namespace Go.Proofs.Ytkanhjafchiikab.Gf
open Go.RowKit Go.Proofs.Ytkanhjafchiikab.Mem Go.Proofs.Ytkanhjafchiikab.Harn

theorem pieceSize_any (need size : Nat) (w : World) (h : 0 < need) (hn : need ≤ 100) (hs : size ≤ 1000) :
    Calls Try.prog 42 #[.int .i64 (need : Nat), .int .i64 (size : Nat)] w fun e w' => e = .returned (.int .i64 (plen need size : Nat)) ∧ w = w' := by
  have HP : Hid (((size : Int) + need - 1) / need = ((plen need size : Nat) : Int)) := plen_int h
  have h0 : ¬ (need : Int) = 0 := by omega
  have h0' : ((need : Int) == 0) = false := by rw [beq_eq_false_iff_ne]; omega
  go_enter Try.func42, Try.ntmps42
  go_wp2
  go_ret
  exact ⟨ret_int HP.out, rfl⟩

theorem fine_cases (need more size : Int) : (need < 1 ∧ fineB need more size = false) ∨ (¬ need < 1 ∧ 6 < need ∧ fineB need more size = false) ∨ (¬ need < 1 ∧ ¬ 6 < need ∧ more < 0 ∧ fineB need more size = false) ∨ (¬ need < 1 ∧ ¬ 6 < need ∧ ¬ more < 0 ∧ 4 < more ∧ fineB need more size = false) ∨ (¬ need < 1 ∧ ¬ 6 < need ∧ ¬ more < 0 ∧ ¬ 4 < more ∧ size < 1 ∧ fineB need more size = false) ∨ (¬ need < 1 ∧ ¬ 6 < need ∧ ¬ more < 0 ∧ ¬ 4 < more ∧ ¬ size < 1 ∧ 100 < size ∧ fineB need more size = false) ∨ (¬ need < 1 ∧ ¬ 6 < need ∧ ¬ more < 0 ∧ ¬ 4 < more ∧ ¬ size < 1 ∧ ¬ 100 < size ∧ fineB need more size = true) := by
  have h : (fineB need more size = true) ↔ (1 ≤ need ∧ need ≤ 6) ∧ (0 ≤ more ∧ more ≤ 4) ∧ (1 ≤ size ∧ size ≤ 100) := by
    simp only [fineB, isB, Bool.and_eq_true, decide_eq_true_eq, and_assoc]
  by_cases hf : fineB need more size = true
  · have h3 := h.1 hf
    rw [hf]
    clear hf h
    simp only [Bool.true_eq_false, and_true, and_false, false_or]
    omega
  · have hf' : fineB need more size = false := by simpa using hf
    have h2 : ¬ ((1 ≤ need ∧ need ≤ 6) ∧ (0 ≤ more ∧ more ≤ 4) ∧ (1 ≤ size ∧ size ≤ 100)) := fun x => hf (h.2 x)
    rw [hf']
    clear hf h hf'
    simp only [and_true, Bool.false_eq_true, and_false, or_false]
    omega

theorem groupRight_any (need more size : Int) (w : World) :
    Calls Try.prog 26 #[.int .i64 need, .int .i64 more, .int .i64 size] w fun e w' => e = .returned (.bool (fineB need more size)) ∧ w = w' := by
  have h := fine_cases need more size
  generalize fineB need more size = z at *
  rcases h with ⟨a, rfl⟩ | ⟨a, b, rfl⟩ | ⟨a, b, c, rfl⟩ | ⟨a, b, c, d, rfl⟩ | ⟨a, b, c, d, f, rfl⟩ | ⟨a, b, c, d, f, g, rfl⟩ | ⟨a, b, c, d, f, g, rfl⟩
  all_goals
    go_enter Try.func26, Try.ntmps26
    go_wp2
    go_ret
    simp_all
    done

/-- Of n values the first k laid. -/
def slots (f : Nat → Value) (z : Value) (n k : Nat) : List Value := (List.range n).map fun j => if j < k then f j else z
theorem slots_start (f : Nat → Value) (z : Value) (n : Nat) : slots f z n 0 = List.replicate n z := by
  apply List.ext_getElem
  · simp [slots]
  · intro j h1 h2; simp [slots]
theorem slots_at (f : Nat → Value) (z : Value) (n k : Nat) (h : k < n) : (slots f z n k)[k]? = some z := by simp [slots, h]
theorem slots_in (f : Nat → Value) (z : Value) (n k j : Nat) (hj : j < k) (hk : k ≤ n) : (slots f z n k)[j]? = some (f j) := by
  have : j < n := by omega
  simp [slots, this, hj]
theorem slots_set (f : Nat → Value) (z : Value) (n k : Nat) : (slots f z n k).set k (f k) = slots f z n (k + 1) := by
  apply List.ext_getElem
  · simp [slots]
  · intro j h1 h2
    by_cases e : k = j
    · subst e; simp [slots]
    · rw [List.getElem_set_ne e]
      by_cases e2 : j < k
      · have : j < k + 1 := by omega
        simp [slots, e2, this]
      · have : ¬ j < k + 1 := by omega
        simp [slots, e2, this]

theorem underU8ss : Try.prog.underlying 29 = some (.slice 31) := by kernel_rfl
theorem infoU8s : (Try.prog.info? 31).map (fun i => (i.zero, i.size, i.bytes)) = some (some (.slice none 0 0), 1, 24) := by kernel_rfl
theorem make_pieces (n : Nat) (hn : n ≤ 1000) (w : World) :
    ∃ W1, (Instr.makeSlice 29 (.int .i64 (n : Int)) (.int .i64 (n : Int))).run Try.prog w = .ok (.slice (some ⟨w.heap.size, 0, none⟩) n n) W1 ∧ HasRow W1 w.heap.size (List.replicate n (.slice none 0 0)) 31 ∧ Below w.heap.size w W1 ∧ W1.heap.size = w.heap.size + 1 := by
  refine ⟨_, run_make_row' (P := Try.prog) 29 31 (.slice none 0 0) 24 underU8ss infoU8s rfl .i64 .i64 n (by omega) (by omega) w, ?_, (Below.refl _ _).alloc (Nat.le_refl _) _, by simp⟩
  unfold HasRow
  rw [← toList_madeCells_one]
  show (w.heap.push _)[w.heap.size]? = _
  simp

set_option maxRecDepth 100000 in
set_option maxHeartbeats 1000000 in
theorem firstPlaces_any (n : Nat) (w : World) (hn : n ≤ 100) :
    Calls Try.prog 28 #[.int .i64 (n : Nat)] w fun e w' => ∃ c, e = .returned (.slice (some ⟨w.heap.size, 0, none⟩) n c) ∧ NumsK .i64 w' (.slice (some ⟨w.heap.size, 0, none⟩) n c) (List.range n) ∧ Below w.heap.size w w' := by
  obtain ⟨W1, hmk, hr1, hb1, _⟩ := Harn.make_ints n (by omega) w
  rw [← slots_start (fun j => .int .i64 ((j : Nat) : Int))] at hr1
  have HR1 : Hid (HasRow W1 w.heap.size (slots (fun j => .int .i64 ((j : Nat) : Int)) (.int .i64 0) n 0) 2) := hr1
  have HB1 : Hid (Below w.heap.size w W1) := hb1
  clear hr1 hb1
  go_enter Try.func28, Try.ntmps28
  go_wp2
  go_loopw [8] (fun i wr => ∃ k : Nat, k ≤ n ∧ i = .int .i64 k ∧ HasRow wr w.heap.size (slots (fun j => .int .i64 ((j : Nat) : Int)) (.int .i64 0) n k) 2 ∧ Below w.heap.size w wr) (fun i _ => n - (intOf i).toNat)
  case atStart => exact ⟨0, by omega, rfl, HR1.out, HB1.out⟩
  case round =>
    obtain ⟨k, hk, rfl, hrow, hbel⟩ := hrel
    have HBEL : Hid (Below w.heap.size w wr) := hbel
    clear HR1 HB1
    by_cases hlt : k < n
    · have c2 := Mem.cell_of_row hrow k
      rw [slots_at _ _ _ _ hlt] at c2
      have f2 := Mem.frozen_of_row hrow k
      have HST : Hid (HasRow (wr.setCell ⟨w.heap.size, k, none⟩ (.int .i64 ((k : Nat) : Int))) w.heap.size (slots (fun j => .int .i64 ((j : Nat) : Int)) (.int .i64 0) n (k + 1)) 2) := by
        rw [← slots_set]; exact row_set hrow _ _
      have p1 : (k : Int) < (n : Int) := by omega
      clear hrow hbel
      go_wp2
      go_roundw
      case rel => exact ⟨k + 1, by omega, by go_num, HST.out, HBEL.out.setCell (p := ⟨w.heap.size, k, none⟩) (Nat.le_refl _) _⟩
      case measure => simp [intOf]; omega
    · obtain rfl : k = n := by omega
      have HN : Hid (NumsK .i64 wr (.slice (some ⟨w.heap.size, 0, none⟩) k k) (List.range k)) := by
        refine ⟨_, k, by rw [List.length_range], fun j hj => ⟨_, 0, rfl, ?_⟩⟩
        have hj2 : j < k := by simpa using hj
        rw [Nat.zero_add, Mem.cell_of_row hrow, slots_in _ _ _ _ _ hj2 (Nat.le_refl _)]
        simp
      clear hrow hbel
      go_wp2
      go_ret
      exact ⟨k, rfl, HN.out, HBEL.out⟩

/-- a piece of a row of bytes -/
theorem slice_row (ty : TypeId) (hty : Try.prog.underlying ty = some (.slice 5)) (hsz : (Try.prog.info? 5).map (·.size) = some 1) (g a b n : Nat) (ha : a ≤ b) (hb : b ≤ n) (han : a < n) (i j : Int) (hi : i = a) (hj : j = b) (W : World) :
    (Instr.slice ty (.slice (some ⟨g, 0, none⟩) n n) (some (.int .i64 i)) (some (.int .i64 j)) none).run Try.prog W = .ok (.slice (some ⟨g, a, none⟩) (b - a) (n - a)) W := by
  subst hi hj
  obtain ⟨info, hi, hs⟩ := Option.map_eq_some_iff.1 hsz
  have hna : ¬ n = a := by omega
  simp [Instr.slice, Instr.sliceBounds, run_underlying hty, go_sem, ha, hb, hna, sizeOf, typeInfo, hi, hs]

/-- 'string(b)' of a piece that is not empty -/
theorem conv_nums {W : World} {v : Value} {l : List Nat} (h : NumsK .u8 W v l) (hel : Els l) (h0 : 0 < l.length) : (convert 31 9 v).run Try.prog W = .ok (.string (toB l)) W := by
  obtain ⟨a, cap, rfl, hc⟩ := h
  obtain ⟨b, o, rfl, _⟩ := hc 0 h0
  have hl : (l.map UInt8.ofNat).length = l.length := by simp
  have := run_convert_bytes_back W 31 9 5 ⟨b, o, none⟩ cap (l.map UInt8.ofNat) Join.under Join.under8 Join.underS (fun j hj => by
    have hj2 : j < l.length := by omega
    obtain ⟨b', o', hbo, c⟩ := hc j hj2
    injection hbo with hbo
    injection hbo with e1 e2 _
    subst e1 e2
    have e : (⟨b, o, none⟩ : Addr).add j = ⟨b, o + j, none⟩ := by unfold Addr.add; split <;> simp_all
    rw [e, c]
    have := hel.at hj2
    simp; omega)
  rw [hl] at this
  exact this

set_option maxRecDepth 100000 in
set_option maxHeartbeats 1000000 in
theorem cutText_any (t : ByteArray) (need : Nat) (w : World) (h1 : 1 ≤ need) (h2 : need ≤ 6) (h4 : 1 ≤ t.size) (h5 : t.size ≤ 100) :
    Calls Try.prog 27 #[.string t, .int .i64 (need : Nat)] w fun e w' => ∃ g, e = .returned (.slice (some ⟨g, 0, none⟩) need need) ∧ Lists .u8 w' (.slice (some ⟨g, 0, none⟩) need need) (firsts (nb t) need) ∧ Below w.heap.size w w' := by
  have hge := plen_ge (need := need) (size := t.size) (by omega)
  have hle := plen_le need t.size
  have hpos := plen_pos (need := need) (size := t.size) (by omega) (by omega)
  have HLG : Hid (∀ W, Calls Try.prog 42 #[.int .i64 (need : Nat), .int .i64 (t.size : Nat)] W fun e w' => e = .returned (.int .i64 (plen need t.size : Nat)) ∧ W = w') := fun W => pieceSize_any need t.size W (by omega) (by omega) (by omega)
  have hPL : (pad (nb t) need).length = need * plen need t.size := by rw [pad_len (by omega), nb_len]
  have hPC : ncells .u8 (pad (nb t) need) = Lib.byteCells t.data.toList ++ List.replicate (need * plen need t.size - t.size) (.int .u8 0) := by
    unfold pad
    rw [nb_len]
    simp [ncells, nb, Lib.byteCells]
  have HCU : Hid (∀ k, k < need → ∀ i, i < plen need t.size → (cutL (nb t) need k)[i]? = (pad (nb t) need)[k * plen need t.size + i]?) := fun k hk i hi => by
    unfold cutL
    rw [nb_len, List.getElem?_take_of_lt hi, List.getElem?_drop]
  have HCL : Hid (∀ k, k < need → (cutL (nb t) need k).length = plen need t.size) := fun k hk => by rw [cutL_len hk, nb_len]
  have HRM : Hid (∀ k, k < need → k * plen need t.size + plen need t.size ≤ need * plen need t.size) := fun k hk => cut_room hk
  obtain ⟨W1, hmk1, hr1, hbw1, hz1⟩ := Mem.make_bytes (P := Try.prog) 31 5 Join.under Join.info8 (need * plen need t.size) (by omega) w
  obtain ⟨W2, hcp, hr2, hbw2, hz2⟩ := copy_str (P := Try.prog) 31 9 3 5 Join.under Join.info8 W1 w.heap.size 0 (need * plen need t.size) (need * plen need t.size) t _ hr1 (by omega) (by simp; omega)
  have hr2' : HasRow W2 w.heap.size (ncells .u8 (pad (nb t) need)) 5 := by
    rw [hPC]
    simpa using hr2
  obtain ⟨W3, hmk3, hr3, hbw3, hz3⟩ := make_pieces need (by omega) W2
  generalize plen need t.size = L at *
  generalize pad (nb t) need = P at *
  have hmul := mulW (a := need) (b := L) (by omega)
  have HNM : Hid (∀ k, k ≤ need → k * L ≤ need * L) := fun k hk => Nat.mul_le_mul_right _ hk
  rw [← slots_start (fun j => .slice (some ⟨w.heap.size, j * L, none⟩) L (need * L - j * L))] at hr3
  have hzw : W2.heap.size = w.heap.size + 1 := by omega
  rw [hzw] at hr3 hmk3
  have HR3 : Hid (HasRow W3 (w.heap.size + 1) (slots (fun j => .slice (some ⟨w.heap.size, j * L, none⟩) L (need * L - j * L)) (.slice none 0 0) need 0) 31) := hr3
  have HR2 : Hid (HasRow W3 w.heap.size (ncells .u8 P) 5) := Sha.row_below hr2' hbw3 (by omega)
  have HB3 : Hid (Below w.heap.size w W3) := ((hbw1.trans hbw2).trans (hbw3.mono (by omega)))
  have hm2 : need * L ≤ 200 := by omega
  clear hr1 hr2 hr2' hr3 hbw1 hbw2 hbw3 hz1 hz2 hz3 hzw hPC hge hle
  generalize hM : need * L = M at *
  have HM : Hid (need * L = M) := hM
  clear hM
  go_enter Try.func27, Try.ntmps27
  go_wp2_with (first | (go_at_call 42; refine (HLG.out _).mono ?_; rintro e w' ⟨rfl, rfl⟩))
  go_loopw [23] (fun i wr => ∃ k : Nat, k ≤ need ∧ i = .int .i64 k ∧ HasRow wr (w.heap.size + 1) (slots (fun j => .slice (some ⟨w.heap.size, j * L, none⟩) L (M - j * L)) (.slice none 0 0) need k) 31 ∧ HasRow wr w.heap.size (ncells .u8 P) 5 ∧ Below w.heap.size w wr) (fun i _ => need - (intOf i).toNat)
  case atStart => exact ⟨0, by omega, rfl, HR3.out, HR2.out, HB3.out⟩
  case round =>
    obtain ⟨k, hk, rfl, hrow, hrow2, hbel⟩ := hrel
    have HBEL : Hid (Below w.heap.size w wr) := hbel
    have HROW2 : Hid (HasRow wr w.heap.size (ncells .u8 P) 5) := hrow2
    clear HR2 HR3 HB3 hrow2
    by_cases hlt : k < need
    · have c2 := Mem.cell_of_row hrow k
      rw [slots_at _ _ _ _ hlt] at c2
      have f2 := Mem.frozen_of_row hrow k
      have q1 := HRM.out k hlt
      have hm := HM.out
      have hk1 := HNM.out (k + 1) (by omega)
      have hmul1 := mulW (a := k) (b := L) (by omega)
      have hmul2 := mulW (a := k + 1) (b := L) (by omega)
      have e1 : (((k + 1 : Nat) : Int)) = (k : Int) + 1 := by push_cast; rfl
      rw [e1] at hmul2
      have e2 : (k + 1) * L = k * L + L := by rw [Nat.add_mul, Nat.one_mul]
      have hsl : ∀ W, (Instr.slice 31 (.slice (some ⟨w.heap.size, 0, none⟩) M M) (some (.int .i64 ((k * L : Nat) : Int))) (some (.int .i64 (((k + 1) * L : Nat) : Int))) none).run Try.prog W = .ok (.slice (some ⟨w.heap.size, k * L, none⟩) L (M - k * L)) W := fun W => by
        have := slice_row 31 Join.under (by kernel_rfl) w.heap.size (k * L) ((k + 1) * L) M (by omega) (by omega) (by omega) _ _ rfl rfl W
        rw [e2, Nat.add_sub_cancel_left] at this
        rw [e2]; exact this
      have HST : Hid (HasRow (wr.setCell ⟨w.heap.size + 1, k, none⟩ (.slice (some ⟨w.heap.size, k * L, none⟩) L (M - k * L))) (w.heap.size + 1) (slots (fun j => .slice (some ⟨w.heap.size, j * L, none⟩) L (M - j * L)) (.slice none 0 0) need (k + 1)) 31) := by
        rw [← slots_set]; exact row_set hrow _ _
      have HR2 : Hid (∀ v, HasRow (wr.setCell ⟨w.heap.size + 1, k, none⟩ v) w.heap.size (ncells .u8 P) 5) := fun v => Sha.row_other HROW2.out _ _ (by simp)
      have p1 : (k : Int) < (need : Int) := by omega
      generalize k * L = c1 at *
      generalize (k + 1) * L = c3 at *
      clear hrow hbel hm e1 e2
      go_wp2
      go_roundw
      case rel => exact ⟨k + 1, by omega, by go_num, HST.out, HR2.out _, HBEL.out.setCell (p := ⟨w.heap.size + 1, k, none⟩) (by simp) _⟩
      case measure => simp [intOf]; omega
    · obtain rfl : k = need := by omega
      have HN : Hid (Lists .u8 wr (.slice (some ⟨w.heap.size + 1, 0, none⟩) k k) (firsts (nb t) k)) := by
        refine ⟨_, k, by rw [firsts_len], fun j hj => ?_⟩
        have hj2 : j < k := by rw [firsts_len] at hj; exact hj
        refine ⟨w.heap.size + 1, 0, .slice (some ⟨w.heap.size, j * L, none⟩) L (M - j * L), rfl, ?_, ?_⟩
        · rw [Nat.zero_add, Mem.cell_of_row hrow, slots_in _ _ _ _ _ hj2 (Nat.le_refl _)]
        · have e : (firsts (nb t) k)[j] = cutL (nb t) k j := by simp [firsts]
          rw [e]
          have hcl := HCL.out j hj2
          refine ⟨_, M - j * L, by rw [hcl], fun i hi => ⟨_, _, rfl, ?_⟩⟩
          have hi2 : i < L := by omega
          have hcu := HCU.out j hj2 i hi2
          have hrm := HRM.out j hj2
          have hm := HM.out
          rw [Mem.cell_of_row HROW2.out]
          have hin : j * L + i < P.length := by omega
          rw [List.getElem?_eq_getElem hi, List.getElem?_eq_getElem hin] at hcu
          have hcu2 := Option.some.inj hcu
          rw [hcu2]
          simp [ncells, hin]
      clear hrow hbel
      go_wp2
      go_ret
      exact ⟨_, rfl, HN.out, HBEL.out⟩
end Go.Proofs.Ytkanhjafchiikab.Gf
