/- The bytes of ops: both functions whole. -/
import Derived.Test.YtfpgobkedfhakabSpecOB
import Derived.Test.YtfpgobkedfhakabImplOps
namespace Go.Proofs.Ytfpgobkedfhakab.Ops
open Go.RowKit Go.Proofs.Ytfpgobkedfhakab.Mem Go.Proofs.Ytfpgobkedfhakab.Mark Go.Proofs.Ytfpgobkedfhakab.Harn Go.Proofs.Ytfpgobkedfhakab.Rws Go.Proofs.Ytfpgobkedfhakab.Gf Go.Proofs.Ytfpgobkedfhakab.Frm

set_option maxHeartbeats 1000000 in
theorem specOB_any (v : Value) (l : List Ox) (w : World) (h : Ls w v l) (hn : l.length ≤ maxLen) (hs : ∀ y ∈ l, okSz y) :
    Calls Try.prog 5 #[v] w fun e w' => e = .returned (.string (opsO l)) ∧ Below w.heap.size w w' := by
  have K1 := hidR (fun W (hW : Ls W v l) => specOR_any v l W hW hn hs)
  have K2 : Hid (opsR l = true → ∀ W, Ls W v l → Calls Try.prog 11 #[v] W fun e w' => e = .returned (.string (opsB l)) ∧ Below W.heap.size W w') := fun hr W hW => l08Bytes_any v l W hW hr
  have HF := hidR h
  unfold opsO
  clear h hn hs
  cases hr : opsR l
  · rw [hr] at K1
    clear K2
    go_enter Try.func5, Try.ntmps5
    go_wp2_with fail
    refine (K1.out _ HF.out).mono ?_
    rintro e w1 ⟨rfl, hb1⟩
    go_wp2
    go_ret
    exact ⟨rfl, hb1⟩
  · rw [hr] at K1
    have K3 := hidR (K2.out hr)
    clear K2 hr
    generalize opsB l = R at *
    go_enter Try.func5, Try.ntmps5
    go_wp2_with fail
    refine (K1.out _ HF.out).mono ?_
    rintro e w1 ⟨rfl, hb1⟩
    have HB1 := hidR hb1
    have HF1 := hidR (HF.out.below hb1)
    clear hb1
    go_wp2_with fail
    refine (K3.out _ HF1.out).mono ?_
    rintro e w2 ⟨rfl, hb2⟩
    go_wp2
    go_ret
    exact ⟨rfl, bstep HB1.out hb2⟩
theorem bAl {B : Nat} {w W : World} (h : Below B w W) (hB : B ≤ W.heap.size) (o : Obj) : Below B w (W.alloc o) := h.alloc hB o
theorem stepsT_len : ∀ l : List Del.Pc, (stepsT l).length = l.length * 3
  | [] => rfl
  | f :: l => by
    have ih := stepsT_len l
    have e : stepsT (f :: l) = stepT f ++ stepsT l := by simp [stepsT]
    rw [e, List.length_append, ih]; simp [stepT]; omega
theorem opsT0_len : ∀ l : List Ox, (∀ y ∈ l, Small y) → (opsT0 l).length ≤ l.length * 14
  | [], _ => by simp [opsT0]
  | f :: l, h => by
    have ih := opsT0_len l fun y hy => h y (List.mem_cons_of_mem _ hy)
    have e : opsT0 (f :: l) = opT f ++ opsT0 l := by simp [opsT0]
    have h3 := (h f (List.mem_cons_self)).2.2.2.2.1
    have h4 := stepsT_len f.s
    rw [e, List.length_append]
    simp only [opT, headT, List.length_append, List.length_cons, List.length_nil]
    omega
set_option maxRecDepth 100000 in
set_option maxHeartbeats 4000000 in
theorem implOB_any (v : Value) (l : List Ox) (w : World) (h : Ls w v l) (hn : l.length ≤ maxLen) (hs : ∀ y ∈ l, okSz y) :
    Calls Try.prog 7 #[v] w fun e w' => e = .returned (.string (opsO l)) ∧ Below w.heap.size w w' := by
  have K0 := hidR (fun W (hW : Ls W v l) => implOR_any v l W hW hn hs)
  have HF := hidR h
  unfold opsO
  cases hr : opsR l
  · rw [hr] at K0
    clear h hn hs
    go_enter Try.func7, Try.ntmps7
    go_wp2_with fail
    refine (K0.out _ HF.out).mono ?_
    rintro e w1 ⟨rfl, hb1⟩
    go_wp2
    go_ret
    exact ⟨rfl, hb1⟩
  · rw [hr] at K0
    have h12 := opsR_len hr
    have hn2 : ((l.length : Nat) : Int) ≤ 12 := by omega
    have HSM := hidR (fun k (h : k < l.length) => small_of (opsR_at hr _ (List.getElem_mem h)))
    have KN : Hid (∀ n : Int, -9223372036854775808 ≤ n → n ≤ 9223372036854775807 → ∀ W, Calls Try.prog 14 #[.int .i64 n] W fun e w' => e = .returned (.string (PutNum.numB n)) ∧ Below W.heap.size W w') := fun n h1 h2 W => PutNum.implPutNum_any n W h1 h2
    have KX : Hid (∀ t : ByteArray, (t.size : Int) ≤ 8000 → ∀ W, Calls Try.prog 15 #[.string t] W fun e w' => e = .returned (.string (PutText.textB t)) ∧ Below W.heap.size W w') := fun t h1 W => PutText.implPutText_in t W h1
    have KL := hidR (KN.out (l.length : Nat) (by omega) (by omega))
    have HLN : Hid (∀ k, k ≤ l.length → (PutNum.numB (l.length : Nat) :: opsT0 (l.take k)).length ≤ 1000) := fun k hk => by
      have h1 := opsT0_len (l.take k) fun y hy => small_of (opsR_at hr y (List.mem_of_mem_take hy))
      have h4 : (l.take k).length ≤ l.length := by simp; omega
      simp only [List.length_cons]; omega
    have KTG : Hid (∀ u W, Strs W u (PutNum.numB (l.length : Nat) :: opsT0 (l.take l.length)) → Calls Try.prog 16 #[u] W fun e w' => e = .returned (.string (opsB l)) ∧ Below W.heap.size W w') := fun u W hW => by
      have h1 := opsT_size hr l.length
      have h2 := HLN.out l.length (Nat.le_refl _)
      have := together_all u _ W hW (by rw [catL_len]; omega) (by omega)
      rw [← catB_list, List.take_length] at this
      exact this
    generalize PutNum.numB (l.length : Nat) = nb at *
    generalize opsB l = R at *
    obtain ⟨a, cap, rfl, hc⟩ := h
    have HC := hidR hc
    clear hc hr hn hs
    go_enter Try.func7, Try.ntmps7
    go_wp2_with fail
    refine (K0.out _ HF.out).mono ?_
    rintro e w1 ⟨rfl, hb1⟩
    have HB1 := hidR hb1
    clear hb1 HF K0
    go_wp2_with fail
    refine (KL.out _).mono ?_
    rintro e w2 ⟨rfl, hb2⟩
    have HB2 := hidR (bstep HB1.out hb2)
    clear hb2 HB1
    have HOW : Hid (OwnS (w2.alloc (.cells #[.string nb] 9)) w.heap.size (.slice (some ⟨w2.heap.size, 0, none⟩) 1 1) (nb :: opsT0 (l.take 0))) := by
      have h1 : World.ownsRow (w2.alloc (.cells #[.string nb] 9)) w.heap.size 9 1 (.slice (some ⟨w2.heap.size, 0, none⟩) 1 1) 1 [.string nb] := ⟨by simp, .inr ⟨w2.heap.size, 1, #[.string nb], rfl, HB2.out.size, heap_alloc_new w2 _, Nat.le_refl _, by unfold maxLen; omega, by simp, by simp⟩⟩
      exact h1
    have HB2a := hidR (HB2.out.alloc HB2.out.size (.cells #[.string nb] 9))
    go_wp2
    go_loopw [3, 17] (fun u i wr => ∃ k : Nat, k ≤ l.length ∧ i = .int .i64 k ∧ OwnS wr w.heap.size u (nb :: opsT0 (l.take k)) ∧ Below w.heap.size w wr) (fun _ i _ => l.length - (intOf i).toNat)
    case atStart => exact ⟨0, Nat.zero_le _, rfl, HOW.out, HB2a.out⟩
    case round =>
      clear HOW HB2a
      obtain ⟨k, hk, rfl, hown, hbel⟩ := hrel
      by_cases hlt : k < l.length
      · obtain ⟨b, o, vs, rfl, d0, d1, d2, d3, d4, hls⟩ := HC.out k hlt
        have c0 : wr.cell? ⟨b, o + k * 5, none⟩ = _ := (hbel.cell (World.block_lt_of_cell? w _ d0)).trans d0
        have c1 : wr.cell? ⟨b, o + k * 5 + 1, none⟩ = _ := (hbel.cell (World.block_lt_of_cell? w _ d1)).trans d1
        have c2 : wr.cell? ⟨b, o + k * 5 + 2, none⟩ = _ := (hbel.cell (World.block_lt_of_cell? w _ d2)).trans d2
        have c3 : wr.cell? ⟨b, o + k * 5 + 3, none⟩ = _ := (hbel.cell (World.block_lt_of_cell? w _ d3)).trans d3
        have c4 : wr.cell? ⟨b, o + k * 5 + 4, none⟩ = _ := (hbel.cell (World.block_lt_of_cell? w _ d4)).trans d4
        have p1 : (k : Int) < (l.length : Int) := by omega
        have p0 : (0 : Int) ≤ (k : Int) := by omega
        have sm := HSM.out k hlt
        obtain ⟨⟨m0, m1⟩, m2, ⟨m3, m4⟩, m5, m6, m7⟩ := sm
        have HIN := hidR m7
        obtain ⟨av, cv, hvs, hrow⟩ := hls.at
        have HROW := hidR hrow
        have K1 := hidR (KN.out l[k].k (by omega) (by omega))
        have K2 := hidR (KX.out l[k].p (by omega))
        have K3 := hidR (KN.out l[k].m (by omega) (by omega))
        have K4 := hidR (KX.out l[k].d (by omega))
        have K5 := hidR (KN.out (l[k].s.length : Nat) (by omega) (by omega))
        have HX : Hid (nb :: opsT0 (l.take (k + 1)) = ((nb :: opsT0 (l.take k)) ++ [PutNum.numB l[k].k, PutText.textB l[k].p, PutNum.numB l[k].m, PutText.textB l[k].d, PutNum.numB (l[k].s.length : Nat)]) ++ stepsT l[k].s) := by
          show _ = _
          rw [opsT0_one l k hlt]; simp [opT, headT]
        have HONE := hidR (fun j (hj : j < l[k].s.length) => stepsT_one l[k].s j hj)
        have HLEN : Hid ((nb :: opsT0 (l.take k)).length ≤ 1000) := HLN.out k hk
        generalize nb :: opsT0 (l.take k) = ls at *
        generalize PutNum.numB l[k].k = t1 at *
        generalize PutText.textB l[k].p = t2 at *
        generalize PutNum.numB l[k].m = t3 at *
        generalize PutText.textB l[k].d = t4 at *
        generalize l[k].k = y0 at *
        generalize l[k].p = y1 at *
        generalize l[k].m = y2 at *
        generalize l[k].d = y3 at *
        generalize l[k].s = li at *
        generalize PutNum.numB (li.length : Nat) = t5 at *
        clear m0 m1 m2 m3 m4 m5 m7 hls hrow
        subst hvs
        have ag : Hid (some wr.heap.size ≠ u3.ownBlock) := fun e => by have := (OwnV.lt hown _ e.symm).2; omega
        have hV : Below wr.heap.size wr (wr.alloc (.cells #[.int .i64 y0, .string y1, .int .i64 y2, .string y3, .slice av li.length cv] 36)) := (Below.refl _ _).alloc (Nat.le_refl _) _
        have hrw : HasRow (wr.alloc (.cells #[.int .i64 y0, .string y1, .int .i64 y2, .string y3, .slice av li.length cv] 36)) wr.heap.size [.int .i64 y0, .string y1, .int .i64 y2, .string y3, .slice av li.length cv] 36 := Sha.row_new wr _ _
        obtain ⟨V, hVV⟩ : ∃ V, V = wr.alloc (.cells #[.int .i64 y0, .string y1, .int .i64 y2, .string y3, .slice av li.length cv] 36) := ⟨_, rfl⟩
        rw [← hVV] at hV hrw
        have hX := hVV.symm
        have HB := hidR (hbel.trans (hV.mono hbel.size) : Below w.heap.size w V)
        have HRW := hidR hrw
        have HLT : Hid (wr.heap.size < V.heap.size) := World.block_lt_of_cell? V _ (Mem.cell_of_row hrw 0)
        have HO : Hid (OwnS V w.heap.size u3 ls) := OwnS.below hown hV (Nat.le_refl _)
        have KC : Hid (∀ W, Below V.heap.size V W → W.cell? ⟨wr.heap.size, 0, none⟩ = some (.int .i64 y0) ∧ W.cell? ⟨wr.heap.size, 1, none⟩ = some (.string y1) ∧ W.cell? ⟨wr.heap.size, 2, none⟩ = some (.int .i64 y2) ∧ W.cell? ⟨wr.heap.size, 3, none⟩ = some (.string y3) ∧ W.cell? ⟨wr.heap.size, 4, none⟩ = some (.slice av li.length cv)) := fun W hb => by
          have hr9 := Sha.row_below HRW.out hb HLT.out
          exact ⟨Mem.cell_of_row hr9 0, Mem.cell_of_row hr9 1, Mem.cell_of_row hr9 2, Mem.cell_of_row hr9 3, Mem.cell_of_row hr9 4⟩
        have NB := hidR (Below.refl V.heap.size V)
        have e0 : V.cell? ⟨wr.heap.size, 0, none⟩ = some (.int .i64 y0) := Mem.cell_of_row hrw 0
        have e1 : V.cell? ⟨wr.heap.size, 1, none⟩ = some (.string y1) := Mem.cell_of_row hrw 1
        have e2 : V.cell? ⟨wr.heap.size, 2, none⟩ = some (.int .i64 y2) := Mem.cell_of_row hrw 2
        have e3 : V.cell? ⟨wr.heap.size, 3, none⟩ = some (.string y3) := Mem.cell_of_row hrw 3
        have e4 : V.cell? ⟨wr.heap.size, 4, none⟩ = some (.slice av li.length cv) := Mem.cell_of_row hrw 4
        clear d0 d1 d2 d3 d4 hbel hV hrw hVV hown
        go_wp2_with fail
        go_region_held3 (fun W => W.cell? ⟨wr.heap.size, 0, none⟩ = some (.int .i64 y0) ∧ W.cell? ⟨wr.heap.size, 1, none⟩ = some (.string y1) ∧ W.cell? ⟨wr.heap.size, 2, none⟩ = some (.int .i64 y2) ∧ W.cell? ⟨wr.heap.size, 3, none⟩ = some (.string y3) ∧ W.cell? ⟨wr.heap.size, 4, none⟩ = some (.slice av li.length cv))
          (first
            | go_keep
            | (exact kQ)
            | (refine KC.out _ ?_; (repeat' (first | exact NB.out | apply bDr | (refine bAl ?_ (by have := NB.out.size; (try simp at this); (try simp); omega) _))); done))
          (first
            | (go_at_call_of 14 (Value.int .i64 y0); refine (K1.out _).mono ?_; rintro e w2 ⟨rfl, hb⟩; have NB2 := bstep (by repeat' (first | exact NB.out | apply bDr)) hb; clear NB hb; have NB := hidR NB2; clear NB2)
            | (go_at_call_of 15 (Value.string y1); refine (K2.out _).mono ?_; rintro e w3 ⟨rfl, hb⟩; have NB2 := bstep (by repeat' (first | exact NB.out | apply bDr)) hb; clear NB hb; have NB := hidR NB2; clear NB2)
            | (go_at_call_of 14 (Value.int .i64 y2); refine (K3.out _).mono ?_; rintro e w4 ⟨rfl, hb⟩; have NB2 := bstep (by repeat' (first | exact NB.out | apply bDr)) hb; clear NB hb; have NB := hidR NB2; clear NB2)
            | (go_at_call_of 15 (Value.string y3); refine (K4.out _).mono ?_; rintro e w5 ⟨rfl, hb⟩; have NB2 := bstep (by repeat' (first | exact NB.out | apply bDr)) hb; clear NB hb; have NB := hidR NB2; clear NB2)
            | (go_at_call_of 14 (Value.int .i64 (li.length : Int)); refine (K5.out _).mono ?_; rintro e w6 ⟨rfl, hb⟩; have NB2 := bstep (by repeat' (first | exact NB.out | apply bDr)) hb; clear NB hb; have NB := hidR NB2; clear NB2)
            | (refine step_lits (by rfl) _ _ (by rfl) w.heap.size w6.heap.size 5 _ _ [t1, t2, t3, t4, t5] (by rfl) (by rfl) (by rfl) (OwnS.below HO.out (by repeat' (first | exact NB.out | apply bDr | (refine bAl ?_ (by have := NB.out.size; (try simp at this); (try simp); omega) _))) (Nat.le_refl _)) (by have := NB.out.size; have h8 := HB.out.size; (try simp at this); (try simp); omega) (Sha.row_new_at _ [.string t1, .string t2, .string t3, .string t4, .string t5] _ _ (by simp)) (by simp) (by have := HLEN.out; simp; omega) ?_; intro g6 c6 wz ho6 hg6; have kQ : wz.cell? ⟨wr.heap.size, 0, none⟩ = some (.int .i64 y0) ∧ wz.cell? ⟨wr.heap.size, 1, none⟩ = some (.string y1) ∧ wz.cell? ⟨wr.heap.size, 2, none⟩ = some (.int .i64 y2) ∧ wz.cell? ⟨wr.heap.size, 3, none⟩ = some (.string y3) ∧ wz.cell? ⟨wr.heap.size, 4, none⟩ = some (.slice av li.length cv) := ⟨(hg6.cell_far ⟨wr.heap.size, 0, none⟩ (by have := NB.out.size; have h9 := HLT.out; (try simp at this); (try simp); omega) ag.out).trans (KC.out _ (by repeat' (first | exact NB.out | apply bDr | (refine bAl ?_ (by have := NB.out.size; (try simp at this); (try simp); omega) _)))).1, (hg6.cell_far ⟨wr.heap.size, 1, none⟩ (by have := NB.out.size; have h9 := HLT.out; (try simp at this); (try simp); omega) ag.out).trans (KC.out _ (by repeat' (first | exact NB.out | apply bDr | (refine bAl ?_ (by have := NB.out.size; (try simp at this); (try simp); omega) _)))).2.1, (hg6.cell_far ⟨wr.heap.size, 2, none⟩ (by have := NB.out.size; have h9 := HLT.out; (try simp at this); (try simp); omega) ag.out).trans (KC.out _ (by repeat' (first | exact NB.out | apply bDr | (refine bAl ?_ (by have := NB.out.size; (try simp at this); (try simp); omega) _)))).2.2.1, (hg6.cell_far ⟨wr.heap.size, 3, none⟩ (by have := NB.out.size; have h9 := HLT.out; (try simp at this); (try simp); omega) ag.out).trans (KC.out _ (by repeat' (first | exact NB.out | apply bDr | (refine bAl ?_ (by have := NB.out.size; (try simp at this); (try simp); omega) _)))).2.2.2.1, (hg6.cell_far ⟨wr.heap.size, 4, none⟩ (by have := NB.out.size; have h9 := HLT.out; (try simp at this); (try simp); omega) ag.out).trans (KC.out _ (by repeat' (first | exact NB.out | apply bDr | (refine bAl ?_ (by have := NB.out.size; (try simp at this); (try simp); omega) _)))).2.2.2.2⟩; have HO6 := hidR ho6; have HB6 : Hid (Below w.heap.size w wz) := Below.grown (HB.out.trans ((by repeat' (first | exact NB.out | apply bDr | (refine bAl ?_ (by have := NB.out.size; (try simp at this); (try simp); omega) _))) |> fun (h : Below _ _ _) => h.mono HB.out.size)) hg6 (by have := NB.out.size; have h8 := HB.out.size; (try simp at this); (try simp); omega) (fun j hj => (OwnV.lt HO.out j hj).1); clear ho6 hg6; simp only [CutCall.shut_cut] at *))
        unfold Hid
        refine wpAnyH_take (i := 19) (v := ?_) rfl (by kernel_rfl) (by kernel_rfl) (by kernel_rfl) (fun _ _ _ h => h) (Or.inl ⟨by rfl, ?_⟩) kQ ?_
        rotate_left
        · (intro w9 hS9; (try dsimp only at hS9); go_simp; (try with_reducible rfl))
        simp only [List.getElem_toArray, List.getElem_cons_succ, List.getElem_cons_zero, Act.put, List.setIfInBounds_toArray, List.set_cons_zero, List.set_cons_succ]
        refine wpAnyH_done (by kernel_rfl) ?_ _
        refine NoPanic.normal ?_
        have x4 := kQ.2.2.2.2
        clear kQ c0 c1 c2 c3 c4 e0 e1 e2 e3 e4 K1 K2 K3 K4 K5 hX NB KC HLT HRW HO HB ag
        go_wp2
        clear x4
        generalize hls5 : ls ++ [t1, t2, t3, t4, t5] = ls5 at *
        have HL5 : Hid (ls5.length ≤ 1005) := by have := HLEN.out; show _ ≤ _; rw [← hls5]; simp; omega
        clear hls5 HLEN
        go_loopw [3, 43] (fun u i wr => ∃ j : Nat, j ≤ li.length ∧ i = .int .i64 j ∧ OwnS wr w.heap.size u (ls5 ++ stepsT (li.take j)) ∧ Below w.heap.size w wr) (fun _ i _ => li.length - (intOf i).toNat)
        case atStart => exact ⟨0, Nat.zero_le _, rfl, by simpa [stepsT] using HO6.out, HB6.out⟩
        case round =>
          clear HO6 HB6
          obtain ⟨j, hj, rfl, hown, hbel⟩ := hrel
          by_cases hjl : j < li.length
          · obtain ⟨b3, o3, hav, q0, q1, q2⟩ := HROW.out j hjl
            have f0 : wr.cell? ⟨b3, o3 + j * 3, none⟩ = _ := (hbel.cell (World.block_lt_of_cell? w _ q0)).trans q0
            have f1 : wr.cell? ⟨b3, o3 + j * 3 + 1, none⟩ = _ := (hbel.cell (World.block_lt_of_cell? w _ q1)).trans q1
            have f2 : wr.cell? ⟨b3, o3 + j * 3 + 2, none⟩ = _ := (hbel.cell (World.block_lt_of_cell? w _ q2)).trans q2
            subst hav
            have r1 : (j : Int) < (li.length : Int) := by omega
            have r0 : (0 : Int) ≤ (j : Int) := by omega
            obtain ⟨⟨i0, i1⟩, ⟨i2, i3⟩, i4⟩ := HIN.out _ (List.getElem_mem hjl)
            have J1 := hidR (KN.out li[j].f (by omega) (by omega))
            have J2 := hidR (KN.out li[j].m (by omega) (by omega))
            have J3 := hidR (KX.out li[j].t (by omega))
            have HNEW : Hid (ls5 ++ stepsT (li.take (j + 1)) = (ls5 ++ stepsT (li.take j)) ++ [PutNum.numB li[j].f, PutNum.numB li[j].m, PutText.textB li[j].t]) := by
              show _ = _
              rw [HONE.out j hjl, ← List.append_assoc]; rfl
            have HLEN : Hid ((ls5 ++ stepsT (li.take j)).length ≤ 1100) := by
              have h1 := HL5.out
              have h2 := stepsT_len (li.take j)
              have h4 : (li.take j).length ≤ li.length := by simp; omega
              show _ ≤ _
              rw [List.length_append]; omega
            clear i0 i1 i2 i3 i4 q0 q1 q2
            generalize ls5 ++ stepsT (li.take j) = lq at *
            generalize PutNum.numB li[j].f = g1 at *
            generalize PutNum.numB li[j].m = g2 at *
            generalize PutText.textB li[j].t = g3 at *
            generalize li[j].f = x0 at *
            generalize li[j].m = x1 at *
            generalize li[j].t = x2 at *
            have ag : Hid (some wr.heap.size ≠ u3.ownBlock) := fun e => by have := (OwnV.lt hown _ e.symm).2; omega
            have hV : Below wr.heap.size wr (wr.alloc (.cells #[.int .i64 x0, .int .i64 x1, .string x2] 42)) := (Below.refl _ _).alloc (Nat.le_refl _) _
            have hrw : HasRow (wr.alloc (.cells #[.int .i64 x0, .int .i64 x1, .string x2] 42)) wr.heap.size [.int .i64 x0, .int .i64 x1, .string x2] 42 := Sha.row_new wr _ _
            obtain ⟨V, hVV⟩ : ∃ V, V = wr.alloc (.cells #[.int .i64 x0, .int .i64 x1, .string x2] 42) := ⟨_, rfl⟩
            rw [← hVV] at hV hrw
            have hX := hVV.symm
            have HB := hidR (hbel.trans (hV.mono hbel.size) : Below w.heap.size w V)
            have HRW := hidR hrw
            have HLT : Hid (wr.heap.size < V.heap.size) := World.block_lt_of_cell? V _ (Mem.cell_of_row hrw 0)
            have HO := hidR (OwnS.below hown hV (Nat.le_refl _))
            have KC : Hid (∀ W, Below V.heap.size V W → W.cell? ⟨wr.heap.size, 0, none⟩ = some (.int .i64 x0) ∧ W.cell? ⟨wr.heap.size, 1, none⟩ = some (.int .i64 x1) ∧ W.cell? ⟨wr.heap.size, 2, none⟩ = some (.string x2)) := fun W hb => by
              have hr9 := Sha.row_below HRW.out hb HLT.out
              exact ⟨Mem.cell_of_row hr9 0, Mem.cell_of_row hr9 1, Mem.cell_of_row hr9 2⟩
            have NB := hidR (Below.refl V.heap.size V)
            have e0 : V.cell? ⟨wr.heap.size, 0, none⟩ = some (.int .i64 x0) := Mem.cell_of_row hrw 0
            have e1 : V.cell? ⟨wr.heap.size, 1, none⟩ = some (.int .i64 x1) := Mem.cell_of_row hrw 1
            have e2 : V.cell? ⟨wr.heap.size, 2, none⟩ = some (.string x2) := Mem.cell_of_row hrw 2
            clear hbel hV hrw hVV hown
            go_wp2_with fail
            go_region_held3 (fun W => W.cell? ⟨wr.heap.size, 0, none⟩ = some (.int .i64 x0) ∧ W.cell? ⟨wr.heap.size, 1, none⟩ = some (.int .i64 x1) ∧ W.cell? ⟨wr.heap.size, 2, none⟩ = some (.string x2))
              (first
                | go_keep
                | (exact kQ)
                | (refine KC.out _ ?_; (repeat' (first | exact NB.out | apply bDr | (refine bAl ?_ (by have := NB.out.size; (try simp at this); (try simp); omega) _))); done))
              (first
                | (go_at_call_of 14 (Value.int .i64 x0); refine (J1.out _).mono ?_; rintro e w7 ⟨rfl, hb⟩; have NB2 := bstep (by repeat' (first | exact NB.out | apply bDr)) hb; clear NB hb; have NB := hidR NB2; clear NB2)
                | (go_at_call_of 14 (Value.int .i64 x1); refine (J2.out _).mono ?_; rintro e w8 ⟨rfl, hb⟩; have NB2 := bstep (by repeat' (first | exact NB.out | apply bDr)) hb; clear NB hb; have NB := hidR NB2; clear NB2)
                | (go_at_call_of 15 (Value.string x2); refine (J3.out _).mono ?_; rintro e w9 ⟨rfl, hb⟩; have NB2 := bstep (by repeat' (first | exact NB.out | apply bDr)) hb; clear NB hb; have NB := hidR NB2; clear NB2)
                | (refine step_lits (by rfl) _ _ (by rfl) w.heap.size w9.heap.size 3 _ _ [g1, g2, g3] (by rfl) (by rfl) (by rfl) (OwnS.below HO.out (by repeat' (first | exact NB.out | apply bDr | (refine bAl ?_ (by have := NB.out.size; (try simp at this); (try simp); omega) _))) (Nat.le_refl _)) (by have := NB.out.size; have h8 := HB.out.size; (try simp at this); (try simp); omega) (Sha.row_new_at _ [.string g1, .string g2, .string g3] _ _ (by simp)) (by simp) (by have := HLEN.out; simp; omega) ?_; intro g6 c6 wz ho6 hg6; have kQ : wz.cell? ⟨wr.heap.size, 0, none⟩ = some (.int .i64 x0) ∧ wz.cell? ⟨wr.heap.size, 1, none⟩ = some (.int .i64 x1) ∧ wz.cell? ⟨wr.heap.size, 2, none⟩ = some (.string x2) := ⟨(hg6.cell_far ⟨wr.heap.size, 0, none⟩ (by have := NB.out.size; have h9 := HLT.out; (try simp at this); (try simp); omega) ag.out).trans (KC.out _ (by repeat' (first | exact NB.out | apply bDr | (refine bAl ?_ (by have := NB.out.size; (try simp at this); (try simp); omega) _)))).1, (hg6.cell_far ⟨wr.heap.size, 1, none⟩ (by have := NB.out.size; have h9 := HLT.out; (try simp at this); (try simp); omega) ag.out).trans (KC.out _ (by repeat' (first | exact NB.out | apply bDr | (refine bAl ?_ (by have := NB.out.size; (try simp at this); (try simp); omega) _)))).2.1, (hg6.cell_far ⟨wr.heap.size, 2, none⟩ (by have := NB.out.size; have h9 := HLT.out; (try simp at this); (try simp); omega) ag.out).trans (KC.out _ (by repeat' (first | exact NB.out | apply bDr | (refine bAl ?_ (by have := NB.out.size; (try simp at this); (try simp); omega) _)))).2.2⟩; have HO6 := hidR ho6; have HB6 : Hid (Below w.heap.size w wz) := Below.grown (HB.out.trans ((by repeat' (first | exact NB.out | apply bDr | (refine bAl ?_ (by have := NB.out.size; (try simp at this); (try simp); omega) _))) |> fun (h : Below _ _ _) => h.mono HB.out.size)) hg6 (by have := NB.out.size; have h8 := HB.out.size; (try simp at this); (try simp); omega) (fun j hj => (OwnV.lt HO.out j hj).1); clear ho6 hg6; simp only [CutCall.shut_cut] at *))
            unfold Hid
            refine wpAnyH_take (i := 12) (v := ?_) rfl (by kernel_rfl) (by kernel_rfl) (by kernel_rfl) (fun _ _ _ h => h) (Or.inl ⟨by rfl, ?_⟩) kQ ?_
            rotate_left
            · (intro w9 hS9; (try dsimp only at hS9); go_simp; (try with_reducible rfl))
            simp only [List.getElem_toArray, List.getElem_cons_succ, List.getElem_cons_zero, Act.put, List.setIfInBounds_toArray, List.set_cons_zero, List.set_cons_succ]
            refine wpAnyH_done (by kernel_rfl) ?_ _
            refine NoPanic.normal ?_
            clear kQ f0 f1 f2 e0 e1 e2 J1 J2 J3 hX NB KC HLT HRW HO HB ag
            go_wp2
            go_roundw
            case rel => exact ⟨j + 1, by omega, by go_num, by rw [HNEW.out]; exact HO6.out, HB6.out⟩
            case measure => simp [intOf]; omega
          · obtain rfl : j = li.length := by omega
            rw [List.take_length] at hown
            have HO := hidR hown
            have HB := hidR hbel
            clear hbel hown
            go_wp2
            go_roundw
            case rel => exact ⟨k + 1, by omega, by go_num, by rw [HX.out]; exact HO.out, HB.out⟩
            case measure => simp [intOf]; omega
      · obtain rfl : k = l.length := by omega
        have HS := hidR (OwnS.strs hown)
        have HB := hidR hbel
        clear hbel hown
        go_wp2_with fail
        refine (KTG.out _ _ HS.out).mono ?_
        rintro e w7 ⟨rfl, hb7⟩
        have HB7 := hidR (HB.out.trans (hb7.mono HB.out.size))
        clear hb7
        go_wp2
        go_ret
        exact ⟨rfl, HB7.out⟩
end Go.Proofs.Ytfpgobkedfhakab.Ops
