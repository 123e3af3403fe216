/- The place that the program's search finds. -/
import Derived.Test.YtfpgobkedfhakaaImplOther
import Derived.Lib.Bytealg
namespace Go.Proofs.Ytfpgobkedfhakaa.Tre
open Go.RowKit Go.Proofs.Ytfpgobkedfhakaa.Mem Go.Proofs.Ytfpgobkedfhakaa.Gf Go.Proofs.Ytfpgobkedfhakaa.Harn Go.Proofs.Ytfpgobkedfhakaa.Mark

def cmpT (a b : ByteArray) : Int := Lib.compareBytes a.data.toList b.data.toList
theorem cmp_list : ∀ x y : List UInt8, (Lib.compareBytes x y < 0) ↔ Op.bytesLess x y = true
  | [], [] => by simp [Lib.compareBytes, Op.bytesLess]
  | [], _ :: _ => by simp [Lib.compareBytes, Op.bytesLess]
  | _ :: _, [] => by simp [Lib.compareBytes, Op.bytesLess]
  | a :: x, b :: y => by
    have ih := cmp_list x y
    unfold Lib.compareBytes
    simp only [Op.bytesLess, Bool.or_eq_true, decide_eq_true_eq, Bool.and_eq_true, beq_iff_eq]
    by_cases h1 : a < b
    · simp [h1]
    · rw [if_neg h1]
      by_cases h2 : b < a
      · rw [if_pos h2]
        have hne : a ≠ b := fun e => by subst e; exact h1 h2
        simp [h1, hne]
      · rw [if_neg h2, ih]
        have he : a = b := by
          apply UInt8.toNat_inj.1
          have e1 : ¬ a.toNat < b.toNat := fun h => h1 (UInt8.lt_iff_toNat_lt.2 h)
          have e2 : ¬ b.toNat < a.toNat := fun h => h2 (UInt8.lt_iff_toNat_lt.2 h)
          omega
        simp [he]
theorem cmp_lt (a b : ByteArray) : (cmpT a b < 0) ↔ ltT a b = true := cmp_list _ _
theorem cmp_any (a b : ByteArray) (w : World) : Calls Try.prog 91 #[.string a, .string b] w fun e w' => e = .returned (.int .i64 (cmpT a b)) ∧ w' = w := by
  have h5 := @run_callFunc_extern Try.prog 115 _ Extern.BytealgCompare.compare Try.func115 (by kernel_rfl) (by kernel_rfl) (by kernel_rfl) (by kernel_rfl)
  have h6 := fun W => Lib.run_compareString (P := Try.prog) a b W
  have K : Hid (∀ W, Calls Try.prog 110 #[.string a, .string b] W fun e w' => e = .returned (.int .i64 (cmpT a b)) ∧ w' = W) := fun W => by
    go_enter Try.func110, Try.ntmps110
    go_wp2
    go_ret
    exact ⟨rfl, rfl⟩
  clear h5 h6
  go_enter Try.func91, Try.ntmps91
  go_wp2_with fail
  refine (K.out _).mono ?_
  rintro e w1 ⟨rfl, rfl⟩
  go_wp2
  go_ret
  exact ⟨rfl, rfl⟩
set_option maxHeartbeats 1000000 in
theorem closure_any (f h : Fl) (w : World) : Calls Try.prog 90 #[f.val, h.val] w fun e w' => e = .returned (.int .i64 (cmpT f.p h.p)) ∧ Below w.heap.size w w' := by
  have K := hidT (fun W => cmp_any f.p h.p W)
  have HB : Hid (Below w.heap.size w ((w.alloc (.cells #[.string f.p, .int .i64 f.m, .string f.d] 36)).alloc (.cells #[.string h.p, .int .i64 h.m, .string h.d] 36))) := ((Below.refl _ _).alloc (Nat.le_refl _) _).alloc (by simp) _
  generalize cmpT f.p h.p = c at *
  unfold Fl.val
  go_enter Try.func90, Try.ntmps90
  go_wp2_with fail
  refine (K.out _).mono ?_
  rintro e w1 ⟨rfl, rfl⟩
  go_wp2
  go_ret
  exact ⟨rfl, HB.out⟩
/-- between i and j lies the place -/
def Inv (l : List Fl) (p : ByteArray) (i j : Nat) : Prop := i ≤ j ∧ j ≤ l.length ∧ (∀ q (h : q < l.length), q < i → ltT l[q].p p = true) ∧ (∀ q (h : q < l.length), j ≤ q → ltT l[q].p p = false)
theorem inv_up {l : List Fl} {p : ByteArray} {i j h : Nat} (hs : Sor l) (hi : Inv l p i j) (h1 : i ≤ h) (h2 : h < j) (hl : h < l.length) (ht : ltT l[h].p p = true) : Inv l p (h + 1) j := by
  obtain ⟨a1, a2, a3, a4⟩ := hi
  refine ⟨by omega, a2, fun q hq hqh => ?_, a4⟩
  by_cases e : q = h
  · subst e; exact ht
  · exact ltT_trans (List.pairwise_iff_getElem.1 hs q h hq hl (by omega)) ht
theorem inv_down {l : List Fl} {p : ByteArray} {i j h : Nat} (hs : Sor l) (hi : Inv l p i j) (h1 : i ≤ h) (h2 : h < j) (hl : h < l.length) (ht : ltT l[h].p p = false) : Inv l p i h := by
  obtain ⟨a1, a2, a3, a4⟩ := hi
  refine ⟨h1, by omega, a3, fun q hq hqh => ?_⟩
  by_cases e : q = h
  · subst e; exact ht
  · cases hx : ltT l[q].p p
    · rfl
    · have := ltT_trans (List.pairwise_iff_getElem.1 hs h q hl hq (by omega)) hx
      rw [ht] at this; cases this
theorem inv_end {l : List Fl} {p : ByteArray} {i j : Nat} (hi : Inv l p i j) (h : ¬ i < j) : i = placeL l p := by
  obtain ⟨a1, a2, a3, a4⟩ := hi
  exact placeL_is l p i (by omega) a3 (fun hk => a4 i hk (by omega))
set_option maxRecDepth 100000 in
set_option maxHeartbeats 2000000 in
theorem search_any (v : Value) (l : List Fl) (f : Fl) (w : World) (h : Files w v l) (hs : Sor l) (hn : l.length ≤ 1000) :
    Calls Try.prog 89 #[v, f.val, .func (Fn.func 90) #[] #[]] w fun e w' => ∃ b, e = .returned (.tuple #[.int .i64 (placeL l f.p : Nat), .bool b]) ∧ Below w.heap.size w w' := by
  obtain ⟨a, cap, rfl, hc⟩ := h
  have HC : Hid (RC w a l) := hc
  have HS := hidT hs
  have KQ := hidT (fun (x : Fl) W => closure_any x f W)
  obtain ⟨fp, fm, fd⟩ := f
  unfold Fl.val at *
  dsimp only at *
  clear hc hs
  go_enter Try.func89, Try.ntmps89
  go_wp2
  go_loopw [9, 10] (fun x y wr => ∃ i j : Nat, x = .int .i64 (i : Nat) ∧ y = .int .i64 (j : Nat) ∧ Inv l fp i j ∧ Below w.heap.size w wr ∧ HasRow wr w.heap.size [.string fp, .int .i64 fm, .string fd] 36) (fun x y _ => (intOf y).toNat - (intOf x).toNat)
  case atStart => exact ⟨0, l.length, rfl, rfl, ⟨by omega, by omega, fun q h h2 => by omega, fun q h h2 => by omega⟩, (Below.refl _ _).alloc (Nat.le_refl _) _, Sha.row_new w [.string fp, .int .i64 fm, .string fd] _⟩
  case round =>
    obtain ⟨i, j, rfl, rfl, hinv, hbel, hrow⟩ := hrel
    have hij1 := hinv.1
    have hij2 := hinv.2.1
    have HI := hidT hinv
    have HROW := hidT hrow
    have x0 : wr.cell? ⟨w.heap.size, 0, none⟩ = some (.string fp) := Mem.cell_of_row hrow 0
    have x1 : wr.cell? ⟨w.heap.size, 1, none⟩ = some (.int .i64 fm) := Mem.cell_of_row hrow 1
    have x2 : wr.cell? ⟨w.heap.size, 2, none⟩ = some (.string fd) := Mem.cell_of_row hrow 2
    have hlw : w.heap.size < wr.heap.size := World.block_lt_of_cell? wr _ x0
    by_cases hij : i < j
    · have p1 : (i : Int) < (j : Int) := by omega
      obtain ⟨h, hh⟩ : ∃ h, h = (i + j) / 2 := ⟨_, rfl⟩
      have hmid : ((i : Int) + (j : Int)) / 2 = (h : Int) := by omega
      have q1 : i ≤ h := by omega
      have q2 : h < j := by omega
      have q3 : h < l.length := by omega
      obtain ⟨b, o, rfl, d1, d2, d3⟩ := HC.out h q3
      have c1 : wr.cell? ⟨b, o + h * 3, none⟩ = _ := (hbel.cell (World.block_lt_of_cell? w _ d1)).trans d1
      have c2 : wr.cell? ⟨b, o + h * 3 + 1, none⟩ = _ := (hbel.cell (World.block_lt_of_cell? w _ d2)).trans d2
      have c3 : wr.cell? ⟨b, o + h * 3 + 2, none⟩ = _ := (hbel.cell (World.block_lt_of_cell? w _ d3)).trans d3
      have r1 : (h : Int) < (l.length : Int) := by omega
      have r0 : (0 : Int) ≤ (h : Int) := by omega
      have K := hidT (KQ.out l[h])
      have HUP : Hid (ltT l[h].p fp = true → Inv l fp (h + 1) j) := fun ht => inv_up HS.out HI.out q1 q2 q3 ht
      have HDN : Hid (ltT l[h].p fp = false → Inv l fp i h) := fun ht => inv_down HS.out HI.out q1 q2 q3 ht
      have HCL : Hid (cmpT l[h].p fp < 0 ↔ ltT l[h].p fp = true) := cmp_lt _ _
      generalize ltT l[h].p fp = z at *
      generalize cmpT l[h].p fp = cc at *
      generalize l[h].p = y0 at *
      generalize l[h].m = y1 at *
      generalize l[h].d = y2 at *
      have HB := hidT hbel
      clear d1 d2 d3 hbel hrow hh hinv
      go_wp2_with fail
      go_region_held3 (fun W => W.cell? ⟨w.heap.size, 0, none⟩ = some (.string fp) ∧ W.cell? ⟨w.heap.size, 1, none⟩ = some (.int .i64 fm) ∧ W.cell? ⟨w.heap.size, 2, none⟩ = some (.string fd) ∧ W.cell? ⟨b, o + h * 3, none⟩ = some (.string y0) ∧ W.cell? ⟨b, o + h * 3 + 1, none⟩ = some (.int .i64 y1) ∧ W.cell? ⟨b, o + h * 3 + 2, none⟩ = some (.string y2))
        (first
          | go_keep
          | (exact kQ))
        ((go_at_call 90; refine (K.out _).mono ?_; rintro e w1 ⟨rfl, hb1⟩; have kQ : w1.cell? ⟨w.heap.size, 0, none⟩ = some (.string fp) ∧ w1.cell? ⟨w.heap.size, 1, none⟩ = some (.int .i64 fm) ∧ w1.cell? ⟨w.heap.size, 2, none⟩ = some (.string fd) ∧ w1.cell? ⟨b, o + h * 3, none⟩ = some (.string y0) ∧ w1.cell? ⟨b, o + h * 3 + 1, none⟩ = some (.int .i64 y1) ∧ w1.cell? ⟨b, o + h * 3 + 2, none⟩ = some (.string y2) := ⟨(hb1.cell (World.block_lt_of_cell? wr _ x0)).trans x0, (hb1.cell (World.block_lt_of_cell? wr _ x1)).trans x1, (hb1.cell (World.block_lt_of_cell? wr _ x2)).trans x2, (hb1.cell (World.block_lt_of_cell? wr _ c1)).trans c1, (hb1.cell (World.block_lt_of_cell? wr _ c2)).trans c2, (hb1.cell (World.block_lt_of_cell? wr _ c3)).trans c3⟩; have HB1 := hidT (HB.out.drew.trans (hb1.mono HB.out.drew.size)); have HR1 := hidT (Sha.row_below (Sha.row_drew HROW.out) hb1 hlw); clear hb1; simp only [CutCall.shut_cut] at *))
      unfold Hid
      refine wpAnyH_take (i := 7) (v := ?_) rfl (by kernel_rfl) (by kernel_rfl) (by kernel_rfl) (fun _ _ _ h => h) (Or.inl ⟨by rfl, ?_⟩) kQ ?_
      rotate_left
      · (intro w9 hS9; (try dsimp only at hS9); go_simp; (try with_reducible rfl))
      simp only [List.getElem_toArray, List.getElem_cons_succ, List.getElem_cons_zero, Act.put, List.setIfInBounds_toArray, List.set_cons_zero, List.set_cons_succ]
      refine wpAnyH_done (by kernel_rfl) ?_ _
      refine NoPanic.normal ?_
      clear kQ x0 x1 x2 c1 c2 c3
      by_cases hcc : cc < 0
      · have HUP' := hidT (HUP.out (HCL.out.1 hcc))
        clear HUP HDN HCL
        go_wp2
        go_roundw
        case rel => exact ⟨h + 1, j, by go_num, rfl, HUP'.out, HB1.out, HR1.out⟩
        case measure => simp [intOf]; omega
      · have HDN' := hidT (HDN.out (by
          cases hz : z
          · rfl
          · exact absurd (HCL.out.2 hz) hcc))
        clear HUP HDN HCL
        go_wp2
        go_roundw
        case rel => exact ⟨i, h, rfl, by go_num, HDN'.out, HB1.out, HR1.out⟩
        case measure => simp [intOf]; omega
    · have HP := hidT (inv_end hinv hij)
      have HB := hidT hbel
      have p1 : ¬ (i : Int) < (j : Int) := by omega
      by_cases hin : i < l.length
      · obtain ⟨b, o, rfl, d1, d2, d3⟩ := HC.out i hin
        have c1 : wr.cell? ⟨b, o + i * 3, none⟩ = _ := (hbel.cell (World.block_lt_of_cell? w _ d1)).trans d1
        have c2 : wr.cell? ⟨b, o + i * 3 + 1, none⟩ = _ := (hbel.cell (World.block_lt_of_cell? w _ d2)).trans d2
        have c3 : wr.cell? ⟨b, o + i * 3 + 2, none⟩ = _ := (hbel.cell (World.block_lt_of_cell? w _ d3)).trans d3
        have r1 : (i : Int) < (l.length : Int) := by omega
        have r0 : (0 : Int) ≤ (i : Int) := by omega
        have K := hidT (KQ.out l[i])
        generalize cmpT l[i].p fp = cc at *
        generalize l[i].p = y0 at *
        generalize l[i].m = y1 at *
        generalize l[i].d = y2 at *
        clear d1 d2 d3 hbel hrow hinv
        go_wp2_with fail
        go_region_held3 (fun W => W.cell? ⟨w.heap.size, 0, none⟩ = some (.string fp) ∧ W.cell? ⟨w.heap.size, 1, none⟩ = some (.int .i64 fm) ∧ W.cell? ⟨w.heap.size, 2, none⟩ = some (.string fd) ∧ W.cell? ⟨b, o + i * 3, none⟩ = some (.string y0) ∧ W.cell? ⟨b, o + i * 3 + 1, none⟩ = some (.int .i64 y1) ∧ W.cell? ⟨b, o + i * 3 + 2, none⟩ = some (.string y2))
          (first
            | go_keep
            | (exact kQ))
          ((go_at_call 90; refine (K.out _).mono ?_; rintro e w1 ⟨rfl, hb1⟩; have kQ : w1.cell? ⟨w.heap.size, 0, none⟩ = some (.string fp) ∧ w1.cell? ⟨w.heap.size, 1, none⟩ = some (.int .i64 fm) ∧ w1.cell? ⟨w.heap.size, 2, none⟩ = some (.string fd) ∧ w1.cell? ⟨b, o + i * 3, none⟩ = some (.string y0) ∧ w1.cell? ⟨b, o + i * 3 + 1, none⟩ = some (.int .i64 y1) ∧ w1.cell? ⟨b, o + i * 3 + 2, none⟩ = some (.string y2) := ⟨(hb1.cell (World.block_lt_of_cell? wr _ x0)).trans x0, (hb1.cell (World.block_lt_of_cell? wr _ x1)).trans x1, (hb1.cell (World.block_lt_of_cell? wr _ x2)).trans x2, (hb1.cell (World.block_lt_of_cell? wr _ c1)).trans c1, (hb1.cell (World.block_lt_of_cell? wr _ c2)).trans c2, (hb1.cell (World.block_lt_of_cell? wr _ c3)).trans c3⟩; have HB1 := hidT (HB.out.drew.trans (hb1.mono HB.out.drew.size)); clear hb1; simp only [CutCall.shut_cut] at *))
        unfold Hid
        refine wpAnyH_take (i := 12) (v := ?_) rfl (by kernel_rfl) (by kernel_rfl) (by kernel_rfl) (fun _ _ _ h => h) (Or.inl ⟨by rfl, ?_⟩) kQ ?_
        rotate_left
        · (intro w9 hS9; (try dsimp only at hS9); go_simp; (try with_reducible rfl))
        simp only [List.getElem_toArray, List.getElem_cons_succ, List.getElem_cons_zero, Act.put, List.setIfInBounds_toArray, List.set_cons_zero, List.set_cons_succ]
        refine wpAnyH_take (i := 13) (v := ?_) rfl (by kernel_rfl) (by kernel_rfl) (by kernel_rfl) (fun _ _ _ h => h) (Or.inl ⟨by rfl, ?_⟩) kQ ?_
        rotate_left
        · (intro w9 hS9; (try dsimp only at hS9); go_simp; (try with_reducible rfl))
        simp only [List.getElem_toArray, List.getElem_cons_succ, List.getElem_cons_zero, Act.put, List.setIfInBounds_toArray, List.set_cons_zero, List.set_cons_succ]
        refine wpAnyH_take (i := 14) (v := ?_) rfl (by kernel_rfl) (by kernel_rfl) (by kernel_rfl) (fun _ _ _ h => h) (Or.inl ⟨by rfl, ?_⟩) kQ ?_
        rotate_left
        · (intro w9 hS9; (try dsimp only at hS9); go_simp; (try with_reducible rfl))
        simp only [List.getElem_toArray, List.getElem_cons_succ, List.getElem_cons_zero, Act.put, List.setIfInBounds_toArray, List.set_cons_zero, List.set_cons_succ]
        refine wpAnyH_take (i := 15) (v := ?_) rfl (by kernel_rfl) (by kernel_rfl) (by kernel_rfl) (fun _ _ _ h => h) (Or.inl ⟨by rfl, ?_⟩) kQ ?_
        rotate_left
        · (intro w9 hS9; (try dsimp only at hS9); go_simp; (try with_reducible rfl))
        simp only [List.getElem_toArray, List.getElem_cons_succ, List.getElem_cons_zero, Act.put, List.setIfInBounds_toArray, List.set_cons_zero, List.set_cons_succ]
        refine wpAnyH_done (by kernel_rfl) ?_ _
        refine NoPanic.normal ?_
        clear kQ x0 x1 x2 c1 c2 c3
        go_wp2
        go_ret2
        exact ⟨_, by rw [HP.out]; rfl, HB1.out⟩
      · have r1 : ¬ (i : Int) < (l.length : Int) := by omega
        clear hbel hrow hinv
        go_wp2_with fail
        go_region
        go_wp2
        go_ret2
        exact ⟨_, by rw [HP.out]; rfl, HB.out.drew⟩
end Go.Proofs.Ytfpgobkedfhakaa.Tre
