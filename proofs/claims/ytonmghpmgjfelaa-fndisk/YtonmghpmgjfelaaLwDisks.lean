/- What lwDisks answers on what is alike. -/
import Derived.Test.YtonmghpmgjfelaaOwnDisk2
import Derived.Test.YtonmghpmgjfelaaDiskOuts
import Derived.Test.YtonmghpmgjfelaaSpecCopy
import Derived.Test.YtonmghpmgjfelaaLawBase
namespace Go.Proofs.Ytonmghpmgjfelaa.Disk
open Go.RowKit Go.Proofs.Ytonmghpmgjfelaa.Mem Go.Proofs.Ytonmghpmgjfelaa.Harn

set_option maxHeartbeats 1000000 in
theorem lwTexts_any (v u : Value) (l : List ByteArray) (w : World) (h : Strs w v l) (h2 : Strs w u l) (hn : l.length ≤ 1100000) :
    Calls Try.prog 38 #[v, u] w fun e w' => e = .returned (.bool true) ∧ ∃ n, w' = w.drewN n := by
  obtain ⟨a, cap, rfl, hc⟩ := h
  obtain ⟨a2, cap2, rfl, hc2⟩ := h2
  have HC : Hid (∀ j (h : j < l.length), ∃ b o, a = some ⟨b, o, none⟩ ∧ w.cell? ⟨b, o + j, none⟩ = some (.string l[j])) := hc
  have HC2 : Hid (∀ j (h : j < l.length), ∃ b o, a2 = some ⟨b, o, none⟩ ∧ w.cell? ⟨b, o + j, none⟩ = some (.string l[j])) := hc2
  clear hc hc2
  go_enter Try.func38, Try.ntmps38
  go_wp2
  go_loopw [5] (fun i wr => ∃ k : Nat, k ≤ l.length ∧ i = .int .i64 k ∧ ∃ n, wr = w.drewN n) (fun i _ => l.length - (intOf i).toNat)
  case atStart => exact ⟨0, by omega, rfl, 0, rfl⟩
  case round =>
    obtain ⟨k, hk, rfl, n, rfl⟩ := hrel
    by_cases hlt : k < l.length
    · obtain ⟨b, o, rfl, c1⟩ := HC.out k hlt
      obtain ⟨b2, o2, rfl, c2⟩ := HC2.out k hlt
      have p1 : (k : Int) < (l.length : Int) := by omega
      generalize l[k] = t at *
      go_wp2_with fail
      go_quiet (fail)
      go_wp2
      go_roundw
      case rel => exact ⟨k + 1, by omega, by go_num, _, rfl⟩
      case measure => simp [intOf]; omega
    · have e : k = l.length := by omega
      subst e
      go_wp2
      go_ret
      exact ⟨rfl, n, rfl⟩

set_option maxRecDepth 100000 in
set_option maxHeartbeats 1000000 in
theorem lwDisk_any (vs vp us up : Value) (ls : List ByteArray) (lp : List (Int × ByteArray)) (w : World) (hs : Strs w vs ls) (hp : Pends w vp lp) (ks : Strs w us ls) (kp : Pends w up lp) (h1 : ls.length ≤ 1100000) (h2 : lp.length ≤ 1100000) :
    Calls Try.prog 13 #[.agg #[vs, vp], .agg #[us, up]] w fun e w' => e = .returned (.bool true) ∧ Below w.heap.size w w' := by
  obtain ⟨W0, hW0⟩ : ∃ W0, W0 = (w.alloc (Obj.cells #[vs, vp] 26)).alloc (Obj.cells #[us, up] 26) := ⟨_, rfl⟩
  have hB0 : Below w.heap.size w W0 := by rw [hW0]; exact ((Below.refl _ _).alloc (Nat.le_refl _) _).alloc (by simp) _
  have HB0 : Hid (Below w.heap.size w W0) := hB0
  have H2 : Hid (Strs W0 vs ls) := Strs.below hs hB0
  have H3 : Hid (Strs W0 us ls) := Strs.below ks hB0
  obtain ⟨a1, cap1, rfl, hc1⟩ := hp
  obtain ⟨a2, cap2, rfl, hc2⟩ := kp
  have HC1 : Hid (∀ j (h : j < lp.length), ∃ b o, a1 = some ⟨b, o, none⟩ ∧ w.cell? ⟨b, o + j * 2, none⟩ = some (.int .i64 lp[j].1) ∧ w.cell? ⟨b, o + j * 2 + 1, none⟩ = some (.string lp[j].2)) := hc1
  have HC2 : Hid (∀ j (h : j < lp.length), ∃ b o, a2 = some ⟨b, o, none⟩ ∧ w.cell? ⟨b, o + j * 2, none⟩ = some (.int .i64 lp[j].1) ∧ w.cell? ⟨b, o + j * 2 + 1, none⟩ = some (.string lp[j].2)) := hc2
  have r0 : HasRow W0 w.heap.size [vs, .slice a1 lp.length cap1] 26 := by rw [hW0]; exact Sha.row_alloc (Sha.row_new w [vs, .slice a1 lp.length cap1] 26) _
  have r1 : HasRow W0 (w.heap.size + 1) [us, .slice a2 lp.length cap2] 26 := by rw [hW0]; exact Sha.row_new_at (w.alloc _) [us, .slice a2 lp.length cap2] 26 _ (by simp)
  have m0 : W0.cell? ⟨w.heap.size, 0, none⟩ = some vs := Mem.cell_of_row r0 0
  have m1 : W0.cell? ⟨w.heap.size, 1, none⟩ = some (.slice a1 lp.length cap1) := Mem.cell_of_row r0 1
  have m2 : W0.cell? ⟨w.heap.size + 1, 0, none⟩ = some us := Mem.cell_of_row r1 0
  have m3 : W0.cell? ⟨w.heap.size + 1, 1, none⟩ = some (.slice a2 lp.length cap2) := Mem.cell_of_row r1 1
  clear hs ks hc1 hc2 hB0 r0 r1
  go_enter Try.func13, Try.ntmps13
  go_wp2_with (go_at_call 38; rw [← hW0]; refine (lwTexts_any _ _ ls _ H2.out H3.out h1).mono ?_; clear hW0; rintro e w1 ⟨rfl, n, rfl⟩)
  go_loopw [5] (fun i wr => ∃ k : Nat, k ≤ lp.length ∧ i = .int .i64 k ∧ ∃ n, wr = W0.drewN n) (fun i _ => lp.length - (intOf i).toNat)
  case atStart => exact ⟨0, by omega, rfl, n, rfl⟩
  case round =>
    obtain ⟨k, hk, rfl, q, rfl⟩ := hrel
    by_cases hlt : k < lp.length
    · obtain ⟨b, o, rfl, d1, d2⟩ := HC1.out k hlt
      obtain ⟨b2, o2, rfl, d3, d4⟩ := HC2.out k hlt
      have c1 : W0.cell? ⟨b, o + k * 2, none⟩ = _ := (HB0.out.cell (World.block_lt_of_cell? w _ d1)).trans d1
      have c2 : W0.cell? ⟨b, o + k * 2 + 1, none⟩ = _ := (HB0.out.cell (World.block_lt_of_cell? w _ d2)).trans d2
      have c3 : W0.cell? ⟨b2, o2 + k * 2, none⟩ = _ := (HB0.out.cell (World.block_lt_of_cell? w _ d3)).trans d3
      have c4 : W0.cell? ⟨b2, o2 + k * 2 + 1, none⟩ = _ := (HB0.out.cell (World.block_lt_of_cell? w _ d4)).trans d4
      have p1 : (k : Int) < (lp.length : Int) := by omega
      generalize lp[k].1 = x at *
      generalize lp[k].2 = t at *
      clear d1 d2 d3 d4
      go_wp2_with fail
      go_quiet (fail)
      go_wp2
      go_roundw
      case rel => exact ⟨k + 1, by omega, by go_num, _, rfl⟩
      case measure => simp [intOf]; omega
    · have e : k = lp.length := by omega
      subst e
      go_wp2
      go_ret
      exact ⟨rfl, Sha.bel_drewN HB0.out q⟩
end Go.Proofs.Ytonmghpmgjfelaa.Disk

namespace Go.Proofs.Ytonmghpmgjfelaa.Disk
open Go.RowKit Go.Proofs.Ytonmghpmgjfelaa.Mem Go.Proofs.Ytonmghpmgjfelaa.Harn

set_option maxRecDepth 100000 in
set_option maxHeartbeats 1000000 in
theorem lwDisks_any (vs vp us up : Value) (ls : List ByteArray) (lp : List (Int × ByteArray)) (t : ByteArray) (c : Int) (w : World) (hs : Strs w vs ls) (hp : Pends w vp lp) (ks : Strs w us ls) (kp : Pends w up lp) (hf : Fits ls lp) (hr : c = 0 → rightB ls lp = true) :
    Calls Try.prog 11 #[outV vs vp t c, outV us up t c] w fun e w' => e = .returned (.bool true) ∧ Below w.heap.size w w' := by
  obtain ⟨W0, hW0⟩ : ∃ W0, W0 = (w.alloc (Obj.cells #[vs, vp, .string t, .int .i64 c] 30)).alloc (Obj.cells #[us, up, .string t, .int .i64 c] 30) := ⟨_, rfl⟩
  have hB0 : Below w.heap.size w W0 := by rw [hW0]; exact ((Below.refl _ _).alloc (Nat.le_refl _) _).alloc (by simp) _
  have HB0 : Hid (Below w.heap.size w W0) := hB0
  have HX : Hid (BoxO W0 w.heap.size vs vp t c) := by rw [hW0]; exact BoxO.alloc (boxO_at w vs vp t c) _
  have HZ : Hid (W0.heap.size = w.heap.size + 2) := by rw [hW0]; simp [Hid]
  have K1 : Hid (Calls Try.prog 13 #[.agg #[vs, vp], .agg #[us, up]] W0 fun e w' => e = .returned (.bool true) ∧ Below W0.heap.size W0 w') := lwDisk_any vs vp us up ls lp W0 (Strs.below hs hB0) (Pends.below hp hB0) (Strs.below ks hB0) (Pends.below kp hB0) hf.n hf.m
  have K2 : Hid (∀ w1, Below W0.heap.size W0 w1 → Calls Try.prog 21 #[.agg #[vs, vp]] w1 fun e w' => e = .returned (.bool (rightB ls lp)) ∧ Below w1.heap.size w1 w') := fun w1 h => specRight_any vs vp ls lp w1 (Strs.below (Strs.below hs hB0) h) (Pends.below (Pends.below hp hB0) h) hf.n hf.m hf.t hf.y
  clear hs hp ks kp hB0
  by_cases hc : c = 0
  · have hce : (c == 0) = true := by simp [hc]
    have hcn : (c != 0) = false := by simp [hc]
    rw [hr hc] at K2
    have HC : Hid (c = 0) := hc
    clear hr hc
    go_enter Try.func11, Try.ntmps11
    go_wp2_with (first
      | (go_at_call 13; rw [← hW0]; refine K1.out.mono ?_; clear hW0; rintro e w1 ⟨rfl, hb1⟩; obtain ⟨x0, x1, x2, x3⟩ := BoxO.cells (BoxO.below HX.out hb1 (by have := HZ.out; omega)); have HB1 : Hid _ := hb1; clear hb1)
      | (go_at_call 21; refine (K2.out _ HB1.out).mono ?_; rintro e w2 ⟨rfl, hb2⟩))
    go_ret
    exact ⟨rfl, bT (bT HB0.out HB1.out) hb2⟩
  · have hce : (c == 0) = false := by simp [hc]
    have hcn : (c != 0) = true := by simp [hc]
    clear hr K2
    go_enter Try.func11, Try.ntmps11
    go_wp2_with (go_at_call 13; rw [← hW0]; refine K1.out.mono ?_; clear hW0; rintro e w1 ⟨rfl, hb1⟩; obtain ⟨x0, x1, x2, x3⟩ := BoxO.cells (BoxO.below HX.out hb1 (by have := HZ.out; omega)); have HB1 : Hid _ := hb1; clear hb1)
    go_ret
    exact ⟨rfl, bT HB0.out HB1.out⟩
end Go.Proofs.Ytonmghpmgjfelaa.Disk
