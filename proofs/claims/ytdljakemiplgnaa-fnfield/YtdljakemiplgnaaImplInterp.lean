/- What the program's Interp answers. -/
import Derived.Test.YtdljakemiplgnaaImplMixI
namespace Go.Proofs.Ytdljakemiplgnaa.Gf
open Go.RowKit Go.Proofs.Ytdljakemiplgnaa.Mem

theorem underI64ss : Try.prog.underlying 52 = some (.slice 26) := by kernel_rfl
theorem infoI64s : (Try.prog.info? 26).map (fun i => (i.zero, i.size, i.bytes)) = some (some (.slice none 0 0), 1, 24) := by kernel_rfl
theorem make_lists (n : Nat) (hn : n ≤ 1000) (w : World) :
    ∃ W1, (Instr.makeSlice 52 (.int .i64 (n : Int)) (.int .i64 (n : Int))).run Try.prog w = .ok (.slice (some ⟨w.heap.size, 0, none⟩) n n) W1 ∧ HasRow W1 w.heap.size (List.replicate n (.slice none 0 0)) 26 ∧ Below w.heap.size w W1 ∧ W1.heap.size = w.heap.size + 1 := by
  refine ⟨_, run_make_row' (P := Try.prog) 52 26 (.slice none 0 0) 24 underI64ss infoI64s rfl .i64 .i64 n (by omega) (by omega) w, ?_, (Below.refl _ _).alloc (Nat.le_refl _) _, by simp⟩
  unfold HasRow
  rw [← toList_madeCells_one]
  show (w.heap.push _)[w.heap.size]? = _
  simp

/-- Of n lists of one number the first k, in the blocks from B on. -/
def boxes (B n k : Nat) : List Value := (List.range n).map fun j => if j < k then .slice (some ⟨B + j, 0, none⟩) 1 1 else .slice none 0 0
theorem boxes_start (B n : Nat) : boxes B n 0 = List.replicate n (.slice none 0 0) := by
  apply List.ext_getElem
  · simp [boxes]
  · intro j h1 h2; simp [boxes]
theorem boxes_at (B n k : Nat) (h : k < n) : (boxes B n k)[k]? = some (.slice none 0 0) := by simp [boxes, h]
theorem boxes_in (B n k j : Nat) (hj : j < k) (hk : k ≤ n) : (boxes B n k)[j]? = some (.slice (some ⟨B + j, 0, none⟩) 1 1) := by
  have : j < n := by omega
  simp [boxes, this, hj]
theorem boxes_set (B n k : Nat) : (boxes B n k).set k (.slice (some ⟨B + k, 0, none⟩) 1 1) = boxes B n (k + 1) := by
  apply List.ext_getElem
  · simp [boxes]
  · intro j h1 h2
    by_cases e : k = j
    · subst e; simp [boxes]
    · rw [List.getElem_set_ne e]
      by_cases e2 : j < k
      · have : j < k + 1 := by omega
        simp [boxes, e2, this]
      · have : ¬ j < k + 1 := by omega
        simp [boxes, e2, this]
/-- The lists of one number each. -/
def ones (ys : List Nat) : List (List Nat) := ys.map fun y => [y]
theorem mixed_ones (c : Nat → Nat) (ys : List Nat) : mixed c (ones ys) 1 = [sumTo c (fun i => ys.getD i 0) ys.length] := by
  have : ∀ k, mixAt c (ones ys) 0 k = sumTo c (fun i => ys.getD i 0) k := by
    intro k
    unfold mixAt
    congr 1
    funext i
    by_cases h : i < ys.length <;> simp [ones, List.getD, h]
  have e : mixed c (ones ys) 1 = [mixAt c (ones ys) 0 (ones ys).length] := rfl
  rw [e, this]
  simp [ones]

theorem els_ones {ys : List Nat} (h : Els ys) : ∀ p ∈ ones ys, Els p := fun p hp x hx => by
  obtain ⟨y, hy, rfl⟩ := List.mem_map.1 hp
  simp at hx; subst hx; exact h _ hy
theorem len_ones (ys : List Nat) : ∀ p ∈ ones ys, p.length = 1 := fun p hp => by
  obtain ⟨y, hy, rfl⟩ := List.mem_map.1 hp; rfl
theorem lists_ones {W : World} {g B : Nat} {ys : List Nat} {T : TypeId} (hr : HasRow W g (boxes B ys.length ys.length) T) (hc : ∀ j (h : j < ys.length), W.cell? ⟨B + j, 0, none⟩ = some (.int .i64 (ys[j] : Nat))) (cap : Nat) : Lists .i64 W (.slice (some ⟨g, 0, none⟩) ys.length cap) (ones ys) := by
  have hl : (ones ys).length = ys.length := by simp [ones]
  refine ⟨_, cap, by rw [hl], fun j hj => ?_⟩
  have hj2 : j < ys.length := by omega
  refine ⟨g, 0, .slice (some ⟨B + j, 0, none⟩) 1 1, rfl, ?_, ?_⟩
  · rw [Nat.zero_add, Mem.cell_of_row hr, boxes_in _ _ _ _ hj2 (Nat.le_refl _)]
  · have e : (ones ys)[j] = [ys[j]] := by simp [ones]
    rw [e]
    refine ⟨_, 1, rfl, fun i hi => ⟨_, 0, rfl, ?_⟩⟩
    obtain rfl : i = 0 := by simpa using hi
    exact hc j hj2

theorem countsAt_any (vx : Value) (xs : List Nat) (t : Nat) (w : World) (h : NumsK .i64 w vx xs) :
    Calls Try.prog 31 #[vx, .int .i64 t] w fun e w' => ∃ bx bt, e = .returned (.func (.func 53) #[] #[.pointer (some ⟨bx, 0, none⟩), .pointer (some ⟨bt, 0, none⟩)]) ∧ Clos w' bx bt xs t ∧ Below w.heap.size w w' := by
  have hmf : ∀ W x y, (Instr.makeFunc (Fn.func 53) #[] #[x, y]).run Try.prog W = .ok (.func (.func 53) #[] #[x, y]) W := fun _ _ _ => rfl
  have HB : Hid (∀ o o', Below w.heap.size w ((w.alloc o).alloc o')) := fun o o' => balloc (balloc (Below.refl _ _) o) o'
  have HN : Hid (NumsK .i64 w vx xs) := h
  obtain ⟨a, cap, rfl⟩ := h.shape
  clear h
  go_enter Try.func31, Try.ntmps31
  go_wp2
  go_ret
  exact ⟨_, _, rfl, ⟨_, by simp, by simp, HN.out.below (HB.out _ _)⟩, HB.out _ _⟩

set_option maxRecDepth 100000 in
set_option maxHeartbeats 1000000 in
theorem implInterp_any (vx vy : Value) (xs ys : List Int) (t : Int) (w : World) (hx : Harn.Ints w vx xs) (hy : Harn.Ints w vy ys) (hcap : ∀ a n c, vx = .slice a n c → n ≤ c) :
    Calls Try.prog 9 #[vx, vy, .int .i64 t] w fun e w' => e = .returned (.int .i64 (interpZ xs ys t)) ∧ Below w.heap.size w w' := by
  have HLR : Hid (Calls Try.prog 29 #[vx, vy, .int .i64 t] w fun e w' => e = .returned (.bool (lineOk xs ys t)) ∧ w = w') := lineRight_any vx vy xs ys t w hx hy hcap
  by_cases hok : lineOk xs ys t = true
  · have hZ : interpZ xs ys t = (line (xs.map Int.toNat) (ys.map Int.toNat) t.toNat : Nat) := by unfold interpZ; rw [if_pos hok]
    have hh : headOk xs ys t = true := by unfold lineOk at hok; rw [Bool.and_eq_true] at hok; exact hok.1
    have ha : okAll xs ys = true := by unfold lineOk at hok; rw [Bool.and_eq_true] at hok; exact hok.2
    obtain ⟨g1, g2, g3, g4⟩ := headOk_parts hh
    obtain ⟨s1, s2, s3, s4⟩ := els_of g3 (okAll_at ha)
    obtain ⟨q, rfl, hq⟩ := el_nat g4
    have HXN : Hid (NumsK .i64 w vx (xs.map Int.toNat)) := nums_of_ints hx s1
    have hyn := nums_of_ints hy s2
    rw [hok] at HLR
    rw [hZ]
    have hlx : (xs.map Int.toNat).length = xs.length := by simp
    have hly : (ys.map Int.toNat).length = xs.length := by simp [g3]
    have e1 : ((q : Nat) : Int).toNat = q := by omega
    rw [e1]
    generalize xs.map Int.toNat = us at *
    generalize ys.map Int.toNat = vs at *
    obtain ⟨a2, cap2, rfl, hc2⟩ := hyn
    have HC2 : Hid (∀ j (h : j < vs.length), ∃ b o, a2 = some ⟨b, o, none⟩ ∧ w.cell? ⟨b, o + j, none⟩ = some (.int .i64 (vs[j] : Nat))) := hc2
    have HL : Hid (us.length = vs.length) := by show _ = _; omega
    have hn1 : 1 ≤ vs.length := by omega
    have hn2 : vs.length ≤ 10 := by omega
    have HUS : Hid (Els us) := s3
    have HVS : Hid (Els vs) := s4
    obtain ⟨W1, hmk, hr1, hb1, hz1⟩ := make_lists vs.length (by omega) w
    rw [← boxes_start (w.heap.size + 1)] at hr1
    have HR1 : Hid _ := hr1
    have HB1 : Hid (Below w.heap.size w W1) := hb1
    have HZ1 : Hid (W1.heap.size = w.heap.size + 1) := hz1
    obtain ⟨ax, cx, rfl⟩ := HXN.out.shape
    clear hr1 hb1 hz1 hc2 hlx hly g1 g2 g3 g4 e1 s1 s2 s3 s4 hh ha hok hZ hx hy hcap
    go_enter Try.func9, Try.ntmps9
    go_wp2_with (go_at_call 29; refine (HLR.out).mono ?_; rintro e w' ⟨rfl, rfl⟩)
    go_loopw [20] (fun i wr => ∃ k : Nat, k ≤ vs.length ∧ i = .int .i64 k ∧ HasRow wr w.heap.size (boxes (w.heap.size + 1) vs.length k) 26 ∧ (∀ j (h : j < vs.length), j < k → wr.cell? ⟨w.heap.size + 1 + j, 0, none⟩ = some (.int .i64 (vs[j] : Nat))) ∧ Below w.heap.size w wr ∧ wr.heap.size = w.heap.size + 1 + k) (fun i _ => vs.length - (intOf i).toNat)
    case atStart => exact ⟨0, by omega, rfl, HR1.out, fun j h h2 => by omega, HB1.out, by rw [HZ1.out]⟩
    case round =>
      obtain ⟨k, hk, rfl, hrow, hcs, hbel, hz⟩ := hrel
      clear HR1 HB1 HZ1
      have HZ : Hid (wr.heap.size = w.heap.size + 1 + k) := hz
      have HBEL : Hid (Below w.heap.size w wr) := hbel
      by_cases hlt : k < vs.length
      · obtain ⟨b, o, rfl, d1⟩ := HC2.out k hlt
        have c1 : wr.cell? ⟨b, o + k, none⟩ = _ := (hbel.cell (World.block_lt_of_cell? w _ d1)).trans d1
        have c2 := Mem.cell_of_row hrow k
        rw [boxes_at _ _ _ hlt] at c2
        have f2 := Mem.frozen_of_row hrow k
        have hgl : w.heap.size < wr.heap.size := by omega
        have hgn : ¬ w.heap.size = wr.heap.size := by omega
        have HST : Hid (∀ o, HasRow ((wr.setCell ⟨w.heap.size, k, none⟩ (.slice (some ⟨wr.heap.size, 0, none⟩) 1 1)).alloc o) w.heap.size (boxes (w.heap.size + 1) vs.length (k + 1)) 26) := fun o => by
          rw [← boxes_set, hz]; exact Sha.row_alloc (row_set hrow _ _) o
        have HCS : Hid (∀ T v, ∀ j (h : j < vs.length), j < k + 1 → ((wr.setCell ⟨w.heap.size, k, none⟩ v).alloc (.cells #[.int .i64 (vs[k] : Nat)] T)).cell? ⟨w.heap.size + 1 + j, 0, none⟩ = some (.int .i64 (vs[j] : Nat))) := fun T v j h h2 => by
          by_cases e : j = k
          · subst e
            have c := cell_new (wr.setCell ⟨w.heap.size, j, none⟩ v) (.int .i64 (vs[j] : Nat)) T
            rw [World.size_setCell, hz] at c
            exact c
          · have c := hcs j h (by omega)
            have c' : (wr.setCell ⟨w.heap.size, k, none⟩ v).cell? ⟨w.heap.size + 1 + j, 0, none⟩ = some (.int .i64 (vs[j] : Nat)) := by
              rw [World.cell?_setCell_other _ _ _ _ (by intro e; injection e with e _ _; omega)]; exact c
            rw [((Below.refl _ (wr.setCell ⟨w.heap.size, k, none⟩ v)).alloc (Nat.le_refl _) _).cell (World.block_lt_of_cell? _ _ c')]
            exact c'
        have HB2 : Hid (∀ o v, Below w.heap.size w ((wr.setCell ⟨w.heap.size, k, none⟩ v).alloc o)) := fun o v => (hbel.setCell (p := ⟨w.heap.size, k, none⟩) (Nat.le_refl _) v).alloc (by simp; omega) o
        have p1 : (k : Int) < (vs.length : Int) := by omega
        generalize vs[k] = y at *
        clear d1 hrow hcs hbel hz
        go_wp2
        go_roundw
        case rel => exact ⟨k + 1, by omega, by go_num, HST.out _, HCS.out _ _, HB2.out _ _, by have := HZ.out; simp; omega⟩
        case measure => simp [intOf]; omega
      · obtain rfl : k = vs.length := by omega
        have HLI : Hid (Lists .i64 wr (.slice (some ⟨w.heap.size, 0, none⟩) vs.length vs.length) (ones vs)) := lists_ones hrow (fun j h => hcs j h h) _
        have hln : (ones vs).length = vs.length := by simp [ones]
        have HLN : Hid ((ones vs).length = vs.length) := hln
        have HMO := mixed_ones (weight us q) vs
        have HLIN : Hid (mixed (weight us q) (ones vs) 1 = [line us vs q]) := by
          show _ = _; rw [HMO]; unfold line; rw [HL.out]
        have HEO : Hid (∀ p ∈ ones vs, Els p) := els_ones HVS.out
        have HLO : Hid (∀ p ∈ ones vs, p.length = 1) := len_ones vs
        generalize ones vs = ps at *
        clear hln HMO hrow hcs hbel hz
        go_wp2_with fail
        refine (countsAt_any _ us q _ (HXN.out.below HBEL.out)).mono ?_
        rintro e w1 ⟨bx, bt, rfl, hcl, hb1⟩
        have HB1 : Hid (Below w.heap.size w w1) := bstep HBEL.out hb1
        have HLI1 : Hid _ := HLI.out.below hb1
        have HCL : Hid (Clos w1 bx bt us q) := hcl
        clear hcl hb1
        go_wp2_with fail
        refine (mixI_any _ ps 1 bx bt us q _ HLI1.out (by have := HLN.out; omega) HLO.out HEO.out HCL.out HUS.out hq (by have := HLN.out; have := HL.out; omega) (by have := HL.out; omega) (by omega)).mono ?_
        rintro e w2 ⟨rfl, hr2, hb2⟩
        have HB2 : Hid (Below w.heap.size w w2) := bstep HB1.out hb2
        rw [HLIN.out] at hr2
        have c0 := Mem.cell_of_row hr2 0
        simp only [ncells, List.map_cons, List.map_nil, List.getElem?_cons_zero] at c0
        generalize hze : line us vs q = z at *
        have HZE : Hid (line us vs q = z) := hze
        clear hr2 hb2 hze
        go_wp2
        go_ret
        exact ⟨ret_int (by rw [HZE.out]), HB2.out⟩
  · have hok' : lineOk xs ys t = false := by simpa using hok
    rw [hok'] at HLR
    have HZ : Hid (interpZ xs ys t = 0) := interp_no hok'
    generalize interpZ xs ys t = z at *
    clear hok hok' hx hy hcap
    go_enter Try.func9, Try.ntmps9
    go_wp2_with (go_at_call 29; refine (HLR.out).mono ?_; rintro e w' ⟨rfl, rfl⟩)
    go_ret
    exact ⟨ret_int HZ.out.symm, Below.refl _ _⟩
end Go.Proofs.Ytdljakemiplgnaa.Gf
