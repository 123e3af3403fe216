/- The bytes of ops, as texts put together; the model's. -/
import Derived.Test.YtfpgobkedfhakabSpecOps
import Derived.Test.YtfpgobkedfhakabTextsC
import Derived.Test.YtfpgobkedfhakabTextsD
import Derived.Test.YtfpgobkedfhakabPutNum
import Derived.Test.YtfpgobkedfhakabTextsA
namespace Go.Proofs.Ytfpgobkedfhakab.Ops
open Go.RowKit Go.Proofs.Ytfpgobkedfhakab.Mem Go.Proofs.Ytfpgobkedfhakab.Mark Go.Proofs.Ytfpgobkedfhakab.Harn Go.Proofs.Ytfpgobkedfhakab.Rws Go.Proofs.Ytfpgobkedfhakab.Gf Go.Proofs.Ytfpgobkedfhakab.Frm

def stepT (x : Del.Pc) : List ByteArray := [PutNum.numB x.f, PutNum.numB x.m, PutText.textB x.t]
def stepsT (l : List Del.Pc) : List ByteArray := l.flatMap stepT
def headT (x : Ox) : List ByteArray := [PutNum.numB x.k, PutText.textB x.p, PutNum.numB x.m, PutText.textB x.d, PutNum.numB (x.s.length : Nat)]
def opT (x : Ox) : List ByteArray := headT x ++ stepsT x.s
def opsT0 (l : List Ox) : List ByteArray := l.flatMap opT
def opsT (l : List Ox) : List ByteArray := PutNum.numB (l.length : Nat) :: opsT0 l
def opsB (l : List Ox) : ByteArray := catB (opsT l)
def opsO (l : List Ox) : ByteArray := if opsR l then opsB l else ByteArray.empty
theorem stepsT_one (l : List Del.Pc) (k : Nat) (h : k < l.length) : stepsT (l.take (k + 1)) = stepsT (l.take k) ++ stepT l[k] := by
  unfold stepsT; rw [List.take_succ_eq_append_getElem h, List.flatMap_append]; simp
theorem opsT0_one (l : List Ox) (k : Nat) (h : k < l.length) : opsT0 (l.take (k + 1)) = opsT0 (l.take k) ++ opT l[k] := by
  unfold opsT0; rw [List.take_succ_eq_append_getElem h, List.flatMap_append]; simp
theorem catB_app (a b : List ByteArray) : catB (a ++ b) = catB a ++ catB b := by
  induction a with
  | nil => simp [catB]
  | cons t a ih => simp only [List.cons_append, catB, ih]; apply ByteArray.ext; simp
theorem catB_list (l : List ByteArray) : catB l = ⟨(catL l).toArray⟩ := by
  induction l with
  | nil => rfl
  | cons t l ih => simp only [catB, catL, ih]; apply ByteArray.ext; simp
theorem catL_len (l : List ByteArray) : (catL l).length = catS l := by
  induction l with
  | nil => rfl
  | cons t l ih =>
    have : t.data.toList.length = t.size := rfl
    simp [catL, catS, ih, this]
theorem textB_size (t : ByteArray) : 1 ≤ (PutText.textB t).size ∧ (PutText.textB t).size ≤ t.size + 10 := by
  have := numB_size (t.size : Nat)
  unfold PutText.textB
  rw [ByteArray.size_append]; omega
theorem stepsT_size : ∀ (l : List Del.Pc), (∀ y ∈ l, y.t.size ≤ 80) → catS (stepsT l) ≤ l.length * 110
  | [], _ => by simp [stepsT, catS]
  | f :: l, h => by
    have ih := stepsT_size l fun y hy => h y (List.mem_cons_of_mem _ hy)
    have h1 := h f (List.mem_cons_self)
    have e : stepsT (f :: l) = stepT f ++ stepsT l := by simp [stepsT]
    have b1 := numB_size f.f
    have b2 := numB_size f.m
    have b3 := textB_size f.t
    rw [e, catS_app]
    simp only [stepT, catS, List.length_cons]
    omega
theorem stepR_bd2 {x : Del.Pc} (h : Del.stepR x = true) : 0 ≤ x.f ∧ x.f ≤ 80 ∧ 0 ≤ x.m ∧ x.m ≤ 80 ∧ x.m + x.t.size ≤ 80 := by
  unfold Del.stepR at h
  split at h
  · rename_i he
    have := Del.empty_size _ he
    simp only [Bool.and_eq_true, decide_eq_true_eq] at h
    omega
  · simp only [Bool.and_eq_true, decide_eq_true_eq, beq_iff_eq] at h
    omega
/-- what a right op is bounded by -/
def Small (x : Ox) : Prop := (1 ≤ x.k ∧ x.k ≤ 3) ∧ x.p.size ≤ 20 ∧ (0 ≤ x.m ∧ x.m ≤ 511) ∧ x.d.size ≤ 80 ∧ x.s.length ≤ 3 ∧ ∀ y ∈ x.s, (0 ≤ y.f ∧ y.f ≤ 80) ∧ (0 ≤ y.m ∧ y.m ≤ 80) ∧ y.t.size ≤ 80
theorem small_of {x : Ox} (h : opR x = true) : Small x := by
  unfold opR at h
  simp only [Bool.and_eq_true, decide_eq_true_eq] at h
  obtain ⟨⟨h1, h2⟩, h3⟩ := h
  have hp := Tre.pathR_le h1
  by_cases k1 : x.k = 1
  · rw [if_pos k1] at h3
    simp only [Bool.and_eq_true, decide_eq_true_eq, List.isEmpty_iff] at h3
    obtain ⟨h4, h5⟩ := h3
    exact ⟨by omega, hp, h2, h4, by rw [h5]; simp, by rw [h5]; simp⟩
  · rw [if_neg k1] at h3
    by_cases k2 : x.k = 2
    · rw [if_pos k2] at h3
      simp only [Bool.and_eq_true, List.isEmpty_iff] at h3
      obtain ⟨⟨h4, h5⟩, h6⟩ := h3
      have := Del.empty_size x.d (by rw [h5]; rfl)
      exact ⟨by omega, hp, h2, by omega, by rw [h6]; simp, by rw [h6]; simp⟩
    · rw [if_neg k2] at h3
      by_cases k3 : x.k = 3
      · rw [if_pos k3] at h3
        simp only [Bool.and_eq_true] at h3
        obtain ⟨h5, h6⟩ := h3
        have := Del.empty_size x.d h5
        refine ⟨by omega, hp, h2, by omega, Del.stepsR_len h6, fun y hy => ?_⟩
        have := stepR_bd2 (Del.stepsR_at h6 y hy)
        omega
      · rw [if_neg k3] at h3; cases h3
theorem headT_size {x : Ox} (h : Small x) : catS (headT x) ≤ 150 := by
  obtain ⟨_, h1, _, h2, _, _⟩ := h
  have b1 := numB_size x.k
  have b2 := textB_size x.p
  have b3 := numB_size x.m
  have b4 := textB_size x.d
  have b5 := numB_size (x.s.length : Nat)
  simp only [headT, catS]
  omega
theorem opT_size {x : Ox} (h : Small x) : catS (opT x) ≤ 480 := by
  have h1 := headT_size h
  have h2 := stepsT_size x.s fun y hy => (h.2.2.2.2.2 y hy).2.2
  have h3 := h.2.2.2.2.1
  unfold opT
  rw [catS_app]; omega
theorem opsT0_size : ∀ (l : List Ox), (∀ y ∈ l, Small y) → catS (opsT0 l) ≤ l.length * 480
  | [], _ => by simp [opsT0, catS]
  | f :: l, h => by
    have ih := opsT0_size l fun y hy => h y (List.mem_cons_of_mem _ hy)
    have h1 := opT_size (h f (List.mem_cons_self))
    have e : opsT0 (f :: l) = opT f ++ opsT0 l := by simp [opsT0]
    rw [e, catS_app, List.length_cons]; omega
theorem opsT_size {l : List Ox} (h : opsR l = true) (k : Nat) : catS (PutNum.numB (l.length : Nat) :: opsT0 (l.take k)) ≤ 5800 := by
  have h1 := opsR_len h
  have h2 := opsT0_size (l.take k) fun y hy => small_of (opsR_at h y (List.mem_of_mem_take hy))
  have h3 := numB_size (l.length : Nat)
  have h4 : (l.take k).length ≤ l.length := by simp; omega
  simp only [catS]
  omega
theorem part_size {x : Ox} (h : Small x) (j : Nat) : catS (headT x ++ stepsT (x.s.take j)) ≤ 480 := by
  have h1 := headT_size h
  have h2 := stepsT_size (x.s.take j) fun y hy => (h.2.2.2.2.2 y (List.mem_of_mem_take hy)).2.2
  have h3 := h.2.2.2.2.1
  have h4 : (x.s.take j).length ≤ x.s.length := by simp; omega
  rw [catS_app]; omega
theorem bDr {B : Nat} {w W : World} (h : Below B w W) : Below B w W.drew := ⟨h.os, h.tape, h.output, h.size, h.block⟩
set_option maxRecDepth 100000 in
set_option maxHeartbeats 4000000 in
theorem l08Bytes_any (v : Value) (l : List Ox) (w : World) (h : Ls w v l) (hr : opsR l = true) :
    Calls Try.prog 11 #[v] w fun e w' => e = .returned (.string (opsB l)) ∧ Below w.heap.size w w' := by
  have h12 := opsR_len hr
  have hn : ((l.length : Nat) : Int) ≤ 12 := by omega
  have HSM := hidR (fun k (h : k < l.length) => small_of (opsR_at hr _ (List.getElem_mem h)))
  have KN : Hid (∀ n : Int, -9223372036854775808 ≤ n → n ≤ 9223372036854775807 → ∀ W, Calls Try.prog 20 #[.int .i64 n] W fun e w' => e = .returned (.string (PutNum.numB n)) ∧ Below W.heap.size W w') := fun n h1 h2 W => PutNum.specPutNum_any n W h1 h2
  have KX : Hid (∀ t : ByteArray, (t.size : Int) ≤ 8000 → ∀ W, Calls Try.prog 21 #[.string t] W fun e w' => e = .returned (.string (PutText.textB t)) ∧ Below W.heap.size W w') := fun t h1 W => PutText.specPutText_in t W h1
  have KL := hidR (KN.out (l.length : Nat) (by omega) (by omega))
  have HSZ := hidR (opsT_size hr)
  have HEND : Hid (catB (PutNum.numB (l.length : Nat) :: opsT0 (l.take l.length)) = opsB l) := by show _ = _; rw [List.take_length]; rfl
  have HST : Hid (PutNum.numB (l.length : Nat) = catB (PutNum.numB (l.length : Nat) :: opsT0 (l.take 0))) := by simp [opsT0, catB, Hid]
  generalize PutNum.numB (l.length : Nat) = nb at *
  generalize opsB l = R at *
  obtain ⟨a, cap, rfl, hc⟩ := h
  have HC := hidR hc
  clear hc hr
  go_enter Try.func11, Try.ntmps11
  go_wp2_with fail
  refine (KL.out _).mono ?_
  rintro e w1 ⟨rfl, hb1⟩
  have HB1 := hidR hb1
  clear hb1
  go_wp2
  go_loopw [3, 4] (fun t i wr => ∃ k : Nat, k ≤ l.length ∧ i = .int .i64 k ∧ Below w.heap.size w wr ∧ ∃ s : ByteArray, t = .string s ∧ Hid (s = catB (nb :: opsT0 (l.take k)))) (fun _ i _ => l.length - (intOf i).toNat)
  case atStart => exact ⟨0, Nat.zero_le _, rfl, HB1.out, nb, rfl, HST.out⟩
  case round =>
    clear HB1
    obtain ⟨k, hk, rfl, hbel, s, rfl, HS⟩ := hrel
    by_cases hlt : k < l.length
    · obtain ⟨b, o, vs, rfl, d0, d1, d2, d3, d4, hls⟩ := HC.out k hlt
      have c0 : wr.cell? ⟨b, o + k * 5, none⟩ = _ := (hbel.cell (World.block_lt_of_cell? w _ d0)).trans d0
      have c1 : wr.cell? ⟨b, o + k * 5 + 1, none⟩ = _ := (hbel.cell (World.block_lt_of_cell? w _ d1)).trans d1
      have c2 : wr.cell? ⟨b, o + k * 5 + 2, none⟩ = _ := (hbel.cell (World.block_lt_of_cell? w _ d2)).trans d2
      have c3 : wr.cell? ⟨b, o + k * 5 + 3, none⟩ = _ := (hbel.cell (World.block_lt_of_cell? w _ d3)).trans d3
      have c4 : wr.cell? ⟨b, o + k * 5 + 4, none⟩ = _ := (hbel.cell (World.block_lt_of_cell? w _ d4)).trans d4
      have p1 : (k : Int) < (l.length : Int) := by omega
      have p0 : (0 : Int) ≤ (k : Int) := by omega
      have sm := HSM.out k hlt
      have hs8 : s.size ≤ 5800 := by rw [HS.out, catB_size]; exact HSZ.out k
      have HX : Hid (∀ s2 : ByteArray, s2 = s ++ catB (headT l[k] ++ stepsT l[k].s) → s2 = catB (nb :: opsT0 (l.take (k + 1)))) := fun s2 h => by
        rw [h, HS.out, opsT0_one l k hlt, ← List.cons_append, catB_app (nb :: _)]; rfl
      have HH : Hid (∀ j, j ≤ l[k].s.length → (s ++ catB (headT l[k] ++ stepsT (l[k].s.take j))).size ≤ 6280) := fun j _ => by
        rw [ByteArray.size_append, catB_size]
        have := part_size sm j
        omega
      obtain ⟨⟨m0, m1⟩, m2, ⟨m3, m4⟩, m5, m6, m7⟩ := sm
      have HIN := hidR m7
      have HLS := hidR (hls.below hbel)
      obtain ⟨av, cv, hvs, hrow⟩ := (hls.below hbel).at
      have HROW := hidR hrow
      have K1 := hidR (KN.out l[k].k (by omega) (by omega))
      have K2 := hidR (KX.out l[k].p (by omega))
      have K3 := hidR (KN.out l[k].m (by omega) (by omega))
      have K4 := hidR (KX.out l[k].d (by omega))
      have K5 := hidR (KN.out (l[k].s.length : Nat) (by omega) (by omega))
      have HH0 : Hid (s ++ PutNum.numB l[k].k ++ PutText.textB l[k].p ++ PutNum.numB l[k].m ++ PutText.textB l[k].d ++ PutNum.numB (l[k].s.length : Nat) = s ++ catB (headT l[k] ++ stepsT (l[k].s.take 0))) := by
        show _ = _
        simp only [headT, stepsT, List.take_zero, List.flatMap_nil, List.append_nil, catB]
        apply ByteArray.ext; simp
      have HONE := hidR (fun j (hj : j < l[k].s.length) => stepsT_one l[k].s j hj)
      have z1 := (numB_size l[k].k).2
      have z2 := (textB_size l[k].p).2
      have z3 := (numB_size l[k].m).2
      have z4 := (textB_size l[k].d).2
      have z5 := (numB_size (l[k].s.length : Nat)).2
      have n1 : ¬ 9223372036854775807 < s.size + (PutNum.numB l[k].k).size := by omega
      have n2 : ¬ 9223372036854775807 < s.size + (PutNum.numB l[k].k).size + (PutText.textB l[k].p).size := by omega
      have n3 : ¬ 9223372036854775807 < s.size + (PutNum.numB l[k].k).size + (PutText.textB l[k].p).size + (PutNum.numB l[k].m).size := by omega
      have n4 : ¬ 9223372036854775807 < s.size + (PutNum.numB l[k].k).size + (PutText.textB l[k].p).size + (PutNum.numB l[k].m).size + (PutText.textB l[k].d).size := by omega
      have n5 : ¬ 9223372036854775807 < s.size + (PutNum.numB l[k].k).size + (PutText.textB l[k].p).size + (PutNum.numB l[k].m).size + (PutText.textB l[k].d).size + (PutNum.numB (l[k].s.length : Nat)).size := by omega
      clear z1 z2 z3 z4 z5 hs8 HS m0 m1 m2 m3 m4 m5 m7 hls
      generalize headT l[k] = hdT at *
      generalize PutNum.numB l[k].k = t1 at *
      generalize PutText.textB l[k].p = t2 at *
      generalize PutNum.numB l[k].m = t3 at *
      generalize PutText.textB l[k].d = t4 at *
      generalize l[k].k = y0 at *
      generalize l[k].p = y1 at *
      generalize l[k].m = y2 at *
      generalize l[k].d = y3 at *
      generalize l[k].s = li at *
      generalize PutNum.numB (li.length : Nat) = t5 at *
      subst hvs
      have hV : Below wr.heap.size wr (wr.alloc (.cells #[.int .i64 y0, .string y1, .int .i64 y2, .string y3, .slice av li.length cv] 36)) := (Below.refl _ _).alloc (Nat.le_refl _) _
      have hrw : HasRow (wr.alloc (.cells #[.int .i64 y0, .string y1, .int .i64 y2, .string y3, .slice av li.length cv] 36)) wr.heap.size [.int .i64 y0, .string y1, .int .i64 y2, .string y3, .slice av li.length cv] 36 := Sha.row_new wr _ _
      obtain ⟨V, hVV⟩ : ∃ V, V = wr.alloc (.cells #[.int .i64 y0, .string y1, .int .i64 y2, .string y3, .slice av li.length cv] 36) := ⟨_, rfl⟩
      rw [← hVV] at hV hrw
      have hX := hVV.symm
      have HB := hidR (hbel.trans (hV.mono hbel.size) : Below w.heap.size w V)
      have HRW := hidR hrw
      have HLT : Hid (wr.heap.size < V.heap.size) := World.block_lt_of_cell? V _ (Mem.cell_of_row hrw 0)
      have HLS2 := hidR (HLS.out.below hV)
      have KC : Hid (∀ W, Below V.heap.size V W → W.cell? ⟨wr.heap.size, 0, none⟩ = some (.int .i64 y0) ∧ W.cell? ⟨wr.heap.size, 1, none⟩ = some (.string y1) ∧ W.cell? ⟨wr.heap.size, 2, none⟩ = some (.int .i64 y2) ∧ W.cell? ⟨wr.heap.size, 3, none⟩ = some (.string y3) ∧ W.cell? ⟨wr.heap.size, 4, none⟩ = some (.slice av li.length cv)) := fun W hb => by
        have hr9 := Sha.row_below HRW.out hb HLT.out
        exact ⟨Mem.cell_of_row hr9 0, Mem.cell_of_row hr9 1, Mem.cell_of_row hr9 2, Mem.cell_of_row hr9 3, Mem.cell_of_row hr9 4⟩
      have NB := hidR (Below.refl V.heap.size V)
      have e0 : V.cell? ⟨wr.heap.size, 0, none⟩ = some (.int .i64 y0) := Mem.cell_of_row hrw 0
      have e1 : V.cell? ⟨wr.heap.size, 1, none⟩ = some (.string y1) := Mem.cell_of_row hrw 1
      have e2 : V.cell? ⟨wr.heap.size, 2, none⟩ = some (.int .i64 y2) := Mem.cell_of_row hrw 2
      have e3 : V.cell? ⟨wr.heap.size, 3, none⟩ = some (.string y3) := Mem.cell_of_row hrw 3
      have e4 : V.cell? ⟨wr.heap.size, 4, none⟩ = some (.slice av li.length cv) := Mem.cell_of_row hrw 4
      have HROW2 : Hid (∀ j (h : j < li.length), ∃ b o, av = some ⟨b, o, none⟩ ∧ V.cell? ⟨b, o + j * 3, none⟩ = some (.int .i64 li[j].f) ∧ V.cell? ⟨b, o + j * 3 + 1, none⟩ = some (.int .i64 li[j].m) ∧ V.cell? ⟨b, o + j * 3 + 2, none⟩ = some (.string li[j].t)) := fun j hj => by
        obtain ⟨b9, o9, q0, q1, q2, q3⟩ := HROW.out j hj
        exact ⟨b9, o9, q0, (hV.cell (World.block_lt_of_cell? wr _ q1)).trans q1, (hV.cell (World.block_lt_of_cell? wr _ q2)).trans q2, (hV.cell (World.block_lt_of_cell? wr _ q3)).trans q3⟩
      clear d0 d1 d2 d3 d4 hbel hrow hV hrw hVV HLS HROW
      go_wp2_with fail
      go_region_held3 (fun W => W.cell? ⟨wr.heap.size, 0, none⟩ = some (.int .i64 y0) ∧ W.cell? ⟨wr.heap.size, 1, none⟩ = some (.string y1) ∧ W.cell? ⟨wr.heap.size, 2, none⟩ = some (.int .i64 y2) ∧ W.cell? ⟨wr.heap.size, 3, none⟩ = some (.string y3) ∧ W.cell? ⟨wr.heap.size, 4, none⟩ = some (.slice av li.length cv))
        (first
          | go_keep
          | (refine KC.out _ ?_; (repeat' (first | exact NB.out | apply bDr)); done))
        (first
          | (go_at_call_of 20 (Value.int .i64 y0); refine (K1.out _).mono ?_; rintro e w2 ⟨rfl, hb⟩; have NB2 := bstep (by repeat' (first | exact NB.out | apply bDr)) hb; clear NB hb; have NB := hidR NB2; clear NB2)
          | (go_at_call_of 21 (Value.string y1); refine (K2.out _).mono ?_; rintro e w3 ⟨rfl, hb⟩; have NB2 := bstep (by repeat' (first | exact NB.out | apply bDr)) hb; clear NB hb; have NB := hidR NB2; clear NB2)
          | (go_at_call_of 20 (Value.int .i64 y2); refine (K3.out _).mono ?_; rintro e w4 ⟨rfl, hb⟩; have NB2 := bstep (by repeat' (first | exact NB.out | apply bDr)) hb; clear NB hb; have NB := hidR NB2; clear NB2)
          | (go_at_call_of 21 (Value.string y3); refine (K4.out _).mono ?_; rintro e w5 ⟨rfl, hb⟩; have NB2 := bstep (by repeat' (first | exact NB.out | apply bDr)) hb; clear NB hb; have NB := hidR NB2; clear NB2)
          | (go_at_call_of 20 (Value.int .i64 (li.length : Int)); refine (K5.out _).mono ?_; rintro e w6 ⟨rfl, hb⟩; have NB2 := bstep (by repeat' (first | exact NB.out | apply bDr)) hb; clear NB hb; have NB := hidR NB2; have kQ : w6.cell? ⟨wr.heap.size, 0, none⟩ = some (.int .i64 y0) ∧ w6.cell? ⟨wr.heap.size, 1, none⟩ = some (.string y1) ∧ w6.cell? ⟨wr.heap.size, 2, none⟩ = some (.int .i64 y2) ∧ w6.cell? ⟨wr.heap.size, 3, none⟩ = some (.string y3) ∧ w6.cell? ⟨wr.heap.size, 4, none⟩ = some (.slice av li.length cv) := KC.out _ NB2; clear NB2; simp only [CutCall.shut_cut] at *))
      unfold Hid
      refine wpAnyH_take (i := 21) (v := ?_) rfl (by kernel_rfl) (by kernel_rfl) (by kernel_rfl) (fun _ _ _ h => h) (Or.inl ⟨by rfl, ?_⟩) kQ ?_
      rotate_left
      · (intro w9 hS9; (try dsimp only at hS9); go_simp; (try with_reducible rfl))
      simp only [List.getElem_toArray, List.getElem_cons_succ, List.getElem_cons_zero, Act.put, List.setIfInBounds_toArray, List.set_cons_zero, List.set_cons_succ]
      refine wpAnyH_take (i := 22) (v := ?_) rfl (by kernel_rfl) (by kernel_rfl) (by kernel_rfl) (fun _ _ _ h => h) (Or.inl ⟨by rfl, ?_⟩) kQ ?_
      rotate_left
      · (intro w9 hS9; (try dsimp only at hS9); go_simp; (try with_reducible rfl))
      simp only [List.getElem_toArray, List.getElem_cons_succ, List.getElem_cons_zero, Act.put, List.setIfInBounds_toArray, List.set_cons_zero, List.set_cons_succ]
      refine wpAnyH_done (by kernel_rfl) ?_ _
      refine NoPanic.normal ?_
      have hsz := HB.out.size
      clear kQ c0 c1 c2 c3 c4 n1 n2 n3 n4 n5 e0 e1 e2 e3 e4 K1 K2 K3 K4 K5
      go_wp2
      clear hX
      generalize wr.heap.size = g at *
      go_loopw [3, 6] (fun t i wr => ∃ j : Nat, j ≤ li.length ∧ i = .int .i64 j ∧ Below V.heap.size V wr ∧ ∃ s2 : ByteArray, t = .string s2 ∧ Hid (s2 = s ++ catB (hdT ++ stepsT (li.take j)))) (fun _ i _ => li.length - (intOf i).toNat)
      case atStart => exact ⟨0, Nat.zero_le _, rfl, NB.out, _, rfl, HH0.out⟩
      case round =>
        clear NB HH0
        obtain ⟨j, hj, rfl, hbq, s2, rfl, HS2⟩ := hrel
        have hkc := KC.out wr hbq
        have x4 := hkc.2.2.2.2
        by_cases hjl : j < li.length
        · obtain ⟨b3, o3, hav, q0, q1, q2⟩ := HROW2.out j hjl
          have f0 : wr.cell? ⟨b3, o3 + j * 3, none⟩ = _ := (hbq.cell (World.block_lt_of_cell? V _ q0)).trans q0
          have f1 : wr.cell? ⟨b3, o3 + j * 3 + 1, none⟩ = _ := (hbq.cell (World.block_lt_of_cell? V _ q1)).trans q1
          have f2 : wr.cell? ⟨b3, o3 + j * 3 + 2, none⟩ = _ := (hbq.cell (World.block_lt_of_cell? V _ q2)).trans q2
          subst hav
          have r1 : (j : Int) < (li.length : Int) := by omega
          have r0 : (0 : Int) ≤ (j : Int) := by omega
          obtain ⟨⟨i0, i1⟩, ⟨i2, i3⟩, i4⟩ := HIN.out _ (List.getElem_mem hjl)
          have hs9 : s2.size ≤ 6280 := by rw [HS2.out]; exact HH.out j hj
          have J1 := hidR (KN.out li[j].f (by omega) (by omega))
          have J2 := hidR (KN.out li[j].m (by omega) (by omega))
          have J3 := hidR (KX.out li[j].t (by omega))
          have HNEW : Hid (s2 ++ PutNum.numB li[j].f ++ PutNum.numB li[j].m ++ PutText.textB li[j].t = s ++ catB (hdT ++ stepsT (li.take (j + 1)))) := by
            show _ = _
            rw [HS2.out, HONE.out j hjl, ← List.append_assoc, catB_app (hdT ++ _)]
            simp only [stepT, catB]
            apply ByteArray.ext; simp
          have z1 := (numB_size li[j].f).2
          have z2 := (numB_size li[j].m).2
          have z3 := (textB_size li[j].t).2
          have n1 : ¬ 9223372036854775807 < s2.size + (PutNum.numB li[j].f).size := by omega
          have n2 : ¬ 9223372036854775807 < s2.size + (PutNum.numB li[j].f).size + (PutNum.numB li[j].m).size := by omega
          have n3 : ¬ 9223372036854775807 < s2.size + (PutNum.numB li[j].f).size + (PutNum.numB li[j].m).size + (PutText.textB li[j].t).size := by omega
          clear z1 z2 z3 hs9 HS2 i0 i1 i2 i3 i4 q0 q1 q2 hkc
          generalize PutNum.numB li[j].f = u1 at *
          generalize PutNum.numB li[j].m = u2 at *
          generalize PutText.textB li[j].t = u3 at *
          generalize li[j].f = x0 at *
          generalize li[j].m = x1 at *
          generalize li[j].t = x2 at *
          have HBQ := hidR hbq
          have KC2 : Hid (∀ W, Below wr.heap.size wr W → W.cell? ⟨g, 4, none⟩ = some (.slice (some ⟨b3, o3, none⟩) li.length cv) ∧ W.cell? ⟨b3, o3 + j * 3, none⟩ = some (.int .i64 x0) ∧ W.cell? ⟨b3, o3 + j * 3 + 1, none⟩ = some (.int .i64 x1) ∧ W.cell? ⟨b3, o3 + j * 3 + 2, none⟩ = some (.string x2)) := fun W hb => ⟨(hb.cell (World.block_lt_of_cell? wr _ x4)).trans x4, (hb.cell (World.block_lt_of_cell? wr _ f0)).trans f0, (hb.cell (World.block_lt_of_cell? wr _ f1)).trans f1, (hb.cell (World.block_lt_of_cell? wr _ f2)).trans f2⟩
          have NB := hidR (Below.refl wr.heap.size wr)
          clear hbq
          go_wp2_with fail
          go_region_held3 (fun W => W.cell? ⟨g, 4, none⟩ = some (.slice (some ⟨b3, o3, none⟩) li.length cv) ∧ W.cell? ⟨b3, o3 + j * 3, none⟩ = some (.int .i64 x0) ∧ W.cell? ⟨b3, o3 + j * 3 + 1, none⟩ = some (.int .i64 x1) ∧ W.cell? ⟨b3, o3 + j * 3 + 2, none⟩ = some (.string x2))
            (first
              | go_keep
              | (refine KC2.out _ ?_; (repeat' (first | exact NB.out | apply bDr)); done))
            (first
              | (go_at_call_of 20 (Value.int .i64 x0); refine (J1.out _).mono ?_; rintro e w7 ⟨rfl, hb⟩; have NB2 := bstep (by repeat' (first | exact NB.out | apply bDr)) hb; clear NB hb; have NB := hidR NB2; clear NB2)
              | (go_at_call_of 20 (Value.int .i64 x1); refine (J2.out _).mono ?_; rintro e w8 ⟨rfl, hb⟩; have NB2 := bstep (by repeat' (first | exact NB.out | apply bDr)) hb; clear NB hb; have NB := hidR NB2; clear NB2)
              | (go_at_call_of 21 (Value.string x2); refine (J3.out _).mono ?_; rintro e w9 ⟨rfl, hb⟩; have NB2 := bstep (by repeat' (first | exact NB.out | apply bDr)) hb; clear NB hb; have NB := hidR NB2; have kQ : w9.cell? ⟨g, 4, none⟩ = some (.slice (some ⟨b3, o3, none⟩) li.length cv) ∧ w9.cell? ⟨b3, o3 + j * 3, none⟩ = some (.int .i64 x0) ∧ w9.cell? ⟨b3, o3 + j * 3 + 1, none⟩ = some (.int .i64 x1) ∧ w9.cell? ⟨b3, o3 + j * 3 + 2, none⟩ = some (.string x2) := KC2.out _ NB2; clear NB2; simp only [CutCall.shut_cut] at *))
          unfold Hid
          refine wpAnyH_take (i := 24) (v := ?_) rfl (by kernel_rfl) (by kernel_rfl) (by kernel_rfl) (fun _ _ _ h => h) (Or.inl ⟨by rfl, ?_⟩) kQ ?_
          rotate_left
          · (intro w9 hS9; (try dsimp only at hS9); go_simp; (try with_reducible rfl))
          simp only [List.getElem_toArray, List.getElem_cons_succ, List.getElem_cons_zero, Act.put, List.setIfInBounds_toArray, List.set_cons_zero, List.set_cons_succ]
          refine wpAnyH_take (i := 25) (v := ?_) rfl (by kernel_rfl) (by kernel_rfl) (by kernel_rfl) (fun _ _ _ h => h) (Or.inl ⟨by rfl, ?_⟩) kQ ?_
          rotate_left
          · (intro w9 hS9; (try dsimp only at hS9); go_simp; (try with_reducible rfl))
          simp only [List.getElem_toArray, List.getElem_cons_succ, List.getElem_cons_zero, Act.put, List.setIfInBounds_toArray, List.set_cons_zero, List.set_cons_succ]
          refine wpAnyH_done (by kernel_rfl) ?_ _
          refine NoPanic.normal ?_
          have hsz := HBQ.out.size
          have HBN := hidR (HBQ.out.trans (NB.out.mono hsz))
          clear kQ f0 f1 f2 x4 n1 n2 n3 J1 J2 J3
          go_wp2
          go_roundw
          case rel => exact ⟨j + 1, by omega, by go_num, HBN.out, _, rfl, HNEW⟩
          case measure => simp [intOf]; omega
        · obtain rfl : j = li.length := by omega
          have HFIN := hidR (HX.out s2 (by rw [HS2.out, List.take_length]))
          have HBW := hidR (HB.out.trans (hbq.mono HB.out.size))
          clear hbq hkc HS2
          go_wp2
          go_roundw
          case rel => exact ⟨k + 1, by omega, by go_num, HBW.out, _, rfl, HFIN⟩
          case measure => simp [intOf]; omega
    · obtain rfl : k = l.length := by omega
      have HFIN : Hid (s = R) := by show _ = _; rw [HS.out]; exact HEND.out
      have HB := hidR hbel
      clear hbel HS
      go_wp2
      go_ret
      exact ⟨by rw [HFIN.out]; rfl, HB.out⟩
end Go.Proofs.Ytfpgobkedfhakab.Ops
