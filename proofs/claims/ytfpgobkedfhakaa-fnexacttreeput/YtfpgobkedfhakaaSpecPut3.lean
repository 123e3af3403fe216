/- What the model's TreePut answers, walked. -/
import Derived.Test.YtfpgobkedfhakaaSpecPut
import Derived.Deep.RegionHeld3
import Derived.Test.YtfpgobkedfhakaaCutCall
import Derived.Test.YtfpgobkedfhakaaAppMany
import Derived.Deep.Cut
import Derived.Deep.DeepCutAuto
namespace Go.Proofs.Ytfpgobkedfhakaa.Tre
open Go.RowKit Go.Proofs.Ytfpgobkedfhakaa.Mem Go.Proofs.Ytfpgobkedfhakaa.Gf Go.Proofs.Ytfpgobkedfhakaa.Harn Go.Proofs.Ytfpgobkedfhakaa.Mark

noncomputable def putO (l : List Fl) (f : Fl) : List Fl × Int := if (l.any fun y => cross y.p f.p) then ([], 10) else if (putL l f).length ≤ 6 then (putL l f, 0) else ([], 9)
theorem OwnF.form {W : World} {base : Nat} {v : Value} {l : List Fl} (h : OwnF W base v l) : ∃ ad c, v = .slice ad l.length c := by
  rcases h.2 with ⟨rfl, hn⟩ | ⟨g, cap, cur, rfl, _⟩
  · exact ⟨none, 0, by rw [hn]⟩
  · exact ⟨_, _, rfl⟩
theorem PS.drew {w W : World} {g : Nat} {l : List Fl} {f : Fl} (h : PS w W g l f) : PS w W.drew g l f := h.below (Below.refl W.heap.size W).drew
/-- whether the path stands at place q -/
def hereAt (l : List Fl) (p : ByteArray) (q : Nat) : Bool := if h : q < l.length then sameT (l[q]'h).p p else false
theorem wp_fileN {w : World} {ops : Array Oper} {rest : List Oper} {o : Oper} {a : Act} {Q : Exit → Act → World → Prop} (hgd : o.guard = none) (s x : Operand)
    (ho : o.op = .call { callee := .builtin .append, args := #[s, x], argTypes := #[29, 29] }) (base b n : Nat) (v : Value) (l : List Fl) (f : Fl) (hnl : l.length = n) (hs : a.eval s = v) (hx : a.eval x = .slice (some ⟨b, 0, none⟩) 1 1)
    (h : OwnF w base v l) (hbase : base ≤ w.heap.size) (hr : HasRow w b [.string f.p, .int .i64 f.m, .string f.d] 36) (hn : n ≤ 1000000)
    (hK : ∀ g c w', OwnF w' base (.slice (some ⟨g, 0, none⟩) (n + 1) c) (l ++ [f]) → w.grownBy w' v.ownBlock → wpList Try.prog ops Q rest (a.put o.dst (.slice (some ⟨g, 0, none⟩) (n + 1) c)) w') : wpList Try.prog ops Q (o :: rest) a w := by
  subst hnl
  exact wp_file hgd s x ho base b v l f hs hx h hbase (Mem.cell_of_row hr 0) (Mem.cell_of_row hr 1) (Mem.cell_of_row hr 2) hn hK
theorem infoF : (Try.prog.info? 36).map (fun i => (i.zero, i.size, i.bytes)) = some (some (.agg #[.string ByteArray.empty, .int .i64 0, .string ByteArray.empty]), 3, 40) := infoFile
/-- 'append(v, fs...)', fs empty or not -/
theorem wp_filesN {w : World} {ops : Array Oper} {rest : List Oper} {o : Oper} {a : Act} {Q : Exit → Act → World → Prop} (hgd : o.guard = none) (s x : Operand)
    (ho : o.op = .call { callee := .builtin .append, args := #[s, x], argTypes := #[29, 29] }) (base m c N : Nat) (ad : Option Addr) (v : Value) (l fs : List Fl) (hN : N = l.length + fs.length) (hm : m = fs.length) (hs : a.eval s = v) (hx : a.eval x = .slice ad m c)
    (h : OwnF w base v l) (hbase : base ≤ w.heap.size) (b p : Nat) (had : 0 < m → ad = some ⟨b, p, none⟩)
    (hf : ∀ j (hj : j < fs.length), w.cell? ⟨b, p + j * 3, none⟩ = some (.string fs[j].p) ∧ w.cell? ⟨b, p + j * 3 + 1, none⟩ = some (.int .i64 fs[j].m) ∧ w.cell? ⟨b, p + j * 3 + 2, none⟩ = some (.string fs[j].d)) (hn : N ≤ 1000000)
    (hK : ∀ au cu w', OwnF w' base (.slice au N cu) (l ++ fs) → w.grownBy w' v.ownBlock → wpList Try.prog ops Q rest (a.put o.dst (.slice au N cu)) w') : wpList Try.prog ops Q (o :: rest) a w := by
  subst hN
  by_cases h0 : m = 0
  · have hfs : fs = [] := List.length_eq_zero_iff.1 (by omega)
    subst hfs
    subst h0
    have hg : w.grownBy w v.ownBlock := ⟨rfl, rfl, rfl, Nat.le_refl _, fun _ _ _ => rfl⟩
    have h2 := h
    rcases h.2 with ⟨rfl, e⟩ | ⟨g9, cap9, cur9, rfl, _, _, hc9, _⟩
    · have K := hK none 0 w
      have e2 : l.length + ([] : List Fl).length = 0 := by simp [e]
      rw [e2] at K
      exact wp_app1 hgd s x _ ho _ _ _ w hs hx (app_to_nil 29 o.type 36 _ 3 40 underFiles infoF ad c w) (K (by rw [List.append_nil]; exact h2) hg)
    · have K := hK (some ⟨g9, 0, none⟩) cap9 w
      have e2 : l.length + ([] : List Fl).length = l.length := by simp
      rw [e2] at K
      exact wp_app1 hgd s x _ ho _ _ _ w hs hx (app_to_some 29 o.type 36 _ 3 40 underFiles infoF _ _ _ hc9 ad c w) (K (by rw [List.append_nil]; exact h2) hg)
  · obtain rfl := had (by omega)
    exact wp_files hgd s x ho base b p m c v l fs hm hs hx h hbase hf (by omega) (fun u w' h1 h2 => by
      obtain ⟨au, cu, rfl⟩ := h1.form
      rw [List.length_append] at *
      exact hK au cu w' h1 h2)
/-- 'x[k:]' of a list of files -/
theorem slice_tail (g n k : Nat) (hk : k ≤ n) : ∃ ad, ∀ W, (Instr.slice 29 (.slice (some ⟨g, 0, none⟩) n n) (some (.int .i64 (k : Int))) none none).run Try.prog W = .ok (.slice ad (n - k) (n - k)) W ∧ (0 < n - k → ad = some ⟨g, k * 3, none⟩) := by
  obtain ⟨i, hi0, hz0, hz1, hz2⟩ := info_parts infoFile
  by_cases h : n = k
  · subst h
    refine ⟨some ⟨g, 0, none⟩, fun W => ⟨?_, fun h => by omega⟩⟩
    simp [Instr.slice, Instr.sliceBounds, run_underlying underFiles, go_sem, sizeOf, typeInfo, hi0]
  · refine ⟨some ⟨g, k * 3, none⟩, fun W => ⟨?_, fun _ => rfl⟩⟩
    simp [Instr.slice, Instr.sliceBounds, run_underlying underFiles, go_sem, sizeOf, typeInfo, hi0, hk, h, hz1]
/-- whether the path at place q is less -/
def lessAt (l : List Fl) (p : ByteArray) (q : Nat) : Bool := if h : q < l.length then ltT (l[q]'h).p p else false
set_option maxRecDepth 100000 in
set_option maxHeartbeats 2000000 in
theorem specPut_any (g : Nat) (l : List Fl) (f : Fl) (w : World) (h : FilesAt w g 0 l) (hl : l.length ≤ 6) :
    Calls Try.prog 45 #[.agg #[.slice (some ⟨g, 0, none⟩) l.length l.length], f.val] w fun e w' => ∃ v, e = .returned (.agg #[v, .int .i64 (putO l f).2]) ∧ Mk w' v (putO l f).1 ∧ (∀ k, v.ownBlock = some k → w.heap.size ≤ k) ∧ Below w.heap.size w w' := by
  have hp := ps_start w g l f h
  have hl63 : (l.length : Int) ≤ 6 := by omega
  have KI := hidT (fun c W => ill_any c W)
  unfold Fl.val
  obtain ⟨fp, fm, fd⟩ := f
  dsimp only at hp ⊢
  obtain ⟨W0, hW0⟩ : ∃ W0, W0 = ((w.alloc (.cells #[.slice (some ⟨g, 0, none⟩) l.length l.length] 31)).alloc (.cells #[.string fp, .int .i64 fm, .string fd] 36)).alloc (.cells #[.slice none 0 0, .int .i64 0] 33) := ⟨_, rfl⟩
  go_enter Try.func45, Try.ntmps45
  go_wp2_with fail
  rw [← hW0] at hp ⊢
  have HP0 := hidT hp
  have HF0 := hidT h
  clear hp hW0 h
  generalize hfl : (⟨fp, fm, fd⟩ : Fl) = f at *
  have HFL := hidT hfl
  clear hfl
  go_loopw [5] (fun i wr => ∃ k : Nat, k ≤ l.length ∧ i = .int .i64 (k : Nat) ∧ PS w wr g l f ∧ Hid (∀ j (h : j < l.length), j < k → cross l[j].p fp = false)) (fun i _ => l.length - (intOf i).toNat)
  case atStart => exact ⟨0, by omega, rfl, HP0.out, fun j h h2 => absurd h2 (Nat.not_lt_zero j)⟩
  case round =>
    clear HP0
    obtain ⟨k, hk, rfl, hps, HQ⟩ := hrel
    have f0 : wr.cell? ⟨w.heap.size + 1, 0, none⟩ = some (.string fp) := by have := Mem.cell_of_row hps.file 0; rw [← HFL.out] at this; exact this
    have t0 : wr.cell? ⟨w.heap.size, 0, none⟩ = some (.slice (some ⟨g, 0, none⟩) l.length l.length) := Mem.cell_of_row hps.tree 0
    have o0 : wr.cell? ⟨w.heap.size + 2, 0, none⟩ = some (.slice none 0 0) := Mem.cell_of_row hps.out 0
    have o1 : wr.cell? ⟨w.heap.size + 2, 1, none⟩ = some (.int .i64 0) := Mem.cell_of_row hps.out 1
    have of0 := Mem.frozen_of_row hps.out 0
    have of1 := Mem.frozen_of_row hps.out 1
    have hsz := hps.size
    by_cases hkl : k < l.length
    · obtain ⟨⟨c1, _, _⟩, _⟩ := hps.files k hkl
      rw [Nat.zero_add] at c1
      have r1 : (k : Int) < (l.length : Int) := by omega
      have r2 : (0 : Int) ≤ (k : Int) := by omega
      have l5 := World.block_lt_of_cell? wr _ c1
      simp only at l5
      have HQ2 : Hid (cross l[k].p fp = false → ∀ j (h : j < l.length), j < k + 1 → cross l[j].p fp = false) := fun h0 j hj hjk => by
        by_cases e : j = k
        · subst e; exact h0
        · exact HQ.out j hj (by omega)
      have HN : Hid (cross l[k].p fp = true → (l.any fun y => cross y.p fp) = true) := fun h => by
        rw [List.any_eq_true]; exact ⟨_, List.getElem_mem hkl, h⟩
      have KX : Hid (∀ W, Calls Try.prog 81 #[.string l[k].p, .string fp] W fun e w' => e = .returned (.bool (cross l[k].p fp)) ∧ Below W.heap.size W w') := fun W => cross_any _ _ W
      generalize cross l[k].p fp = z at *
      generalize l[k].p = up at *
      have HPS := hidT hps
      clear hps HQ
      cases z
      · have HQ3 := hidT (HQ2.out rfl)
        clear HQ2 HN
        go_wp2_with fail
        go_region_held3 (fun w' => w'.cell? ⟨w.heap.size, 0, none⟩ = some (.slice (some ⟨g, 0, none⟩) l.length l.length) ∧ w'.cell? ⟨w.heap.size + 1, 0, none⟩ = some (.string fp) ∧ w'.cell? ⟨g, k * 3, none⟩ = some (.string up))
          (first
            | go_keep
            | (exact kQ))
          ((go_at_call 81; refine (KX.out _).mono ?_; rintro e w3 ⟨rfl, hb3⟩; have kQ : w3.cell? ⟨w.heap.size, 0, none⟩ = some (.slice (some ⟨g, 0, none⟩) l.length l.length) ∧ w3.cell? ⟨w.heap.size + 1, 0, none⟩ = some (.string fp) ∧ w3.cell? ⟨g, k * 3, none⟩ = some (.string up) := ⟨(hb3.cell (p := ⟨w.heap.size, 0, none⟩) (by simp; omega)).trans t0, (hb3.cell (p := ⟨w.heap.size + 1, 0, none⟩) (by simp; omega)).trans f0, (hb3.cell (p := ⟨g, k * 3, none⟩) l5).trans c1⟩; have HP3 := hidT (HPS.out.drew.below hb3); simp only [CutCall.shut_cut] at *))
        unfold Hid
        refine wpAnyH_done (by kernel_rfl) ?_ _
        refine NoPanic.normal ?_
        go_wp2
        exact ⟨⟨k + 1, by omega, by go_num, HP3.out, HQ3⟩, by simp [intOf]; omega⟩
      · have HNN := hidT (HN.out rfl)
        clear HQ2 HN
        go_wp2_with fail
        go_region_held3 (fun w' => w'.cell? ⟨w.heap.size, 0, none⟩ = some (.slice (some ⟨g, 0, none⟩) l.length l.length) ∧ w'.cell? ⟨w.heap.size + 1, 0, none⟩ = some (.string fp) ∧ w'.cell? ⟨g, k * 3, none⟩ = some (.string up))
          (first
            | go_keep
            | (exact kQ))
          ((go_at_call 81; refine (KX.out _).mono ?_; rintro e w3 ⟨rfl, hb3⟩; have kQ : w3.cell? ⟨w.heap.size, 0, none⟩ = some (.slice (some ⟨g, 0, none⟩) l.length l.length) ∧ w3.cell? ⟨w.heap.size + 1, 0, none⟩ = some (.string fp) ∧ w3.cell? ⟨g, k * 3, none⟩ = some (.string up) := ⟨(hb3.cell (p := ⟨w.heap.size, 0, none⟩) (by simp; omega)).trans t0, (hb3.cell (p := ⟨w.heap.size + 1, 0, none⟩) (by simp; omega)).trans f0, (hb3.cell (p := ⟨g, k * 3, none⟩) l5).trans c1⟩; have HP3 := hidT (HPS.out.drew.below hb3); simp only [CutCall.shut_cut] at *))
        unfold Hid
        refine wpAnyH_done (by kernel_rfl) ?_ _
        refine NoPanic.normal ?_
        go_wp2_with fail
        refine (KI.out 10 w3).mono ?_
        rintro e w9 ⟨rfl, hb9⟩
        have hp9 := HP3.out.below hb9
        clear o0 o1 of0 of1 t0 f0 c1 kQ
        have o0 : w9.cell? ⟨w.heap.size + 2, 0, none⟩ = some (.slice none 0 0) := Mem.cell_of_row hp9.out 0
        have o1 : w9.cell? ⟨w.heap.size + 2, 1, none⟩ = some (.int .i64 0) := Mem.cell_of_row hp9.out 1
        have of0 := Mem.frozen_of_row hp9.out 0
        have of1 := Mem.frozen_of_row hp9.out 1
        have HB9 := hidT hp9.bel
        clear hb9 hp9
        go_wp2
        have hO : putO l ⟨fp, fm, fd⟩ = ([], 10) := by unfold putO; rw [if_pos HNN.out]
        exact bodyPost_ret (v := .agg #[.slice none 0 0, .int .i64 10]) (by simp [results, Try.results45, go_sem, o0, o1]) rfl ⟨_, by rw [hO], by rw [hO]; exact .inr ⟨rfl, rfl⟩, (fun k hk => by cases hk), (HB9.out.setCell (p := ⟨w.heap.size + 2, 0, none⟩) (by simp) _).setCell (p := ⟨w.heap.size + 2, 1, none⟩) (by simp) _⟩
    · obtain rfl : k = l.length := by omega
      have HNO : Hid ((l.any fun y => cross y.p fp) = false) := by
        show _ = _
        rw [List.any_eq_false]
        intro y hy
        obtain ⟨j, hj, rfl⟩ := List.getElem_of_mem hy
        rw [HQ.out j hj hj]; decide
      have HPS := hidT hps
      clear hps HQ f0 o0 o1 of0 of1
      go_wp2
      clear t0
      generalize wr = wa at *
      go_loopw [6] (fun i wr => ∃ q : Nat, q ≤ l.length ∧ i = .int .i64 (q : Nat) ∧ PS w wr g l f ∧ Hid (∀ j (h : j < l.length), j < q → ltT l[j].p fp = true)) (fun i _ => l.length - (intOf i).toNat)
      case atStart => exact ⟨0, by omega, rfl, HPS.out, fun j h h2 => absurd h2 (Nat.not_lt_zero j)⟩
      case round =>
        clear HPS
        obtain ⟨q, hq, rfl, hps, HQ⟩ := hrel
        have HPS := hidT hps
        clear hps
        go_wp2_with fail
        go_cut [40] (fun t wx => t = .bool (lessAt l fp q) ∧ PS w wx g l f)
        case first =>
          have hps := HPS.out
          have f0 : wr.cell? ⟨w.heap.size + 1, 0, none⟩ = some (.string fp) := by have := Mem.cell_of_row hps.file 0; rw [← HFL.out] at this; exact this
          have t0 : wr.cell? ⟨w.heap.size, 0, none⟩ = some (.slice (some ⟨g, 0, none⟩) l.length l.length) := Mem.cell_of_row hps.tree 0
          clear HQ
          by_cases hql : q < l.length
          · obtain ⟨⟨c1, _, _⟩, _⟩ := hps.files q hql
            rw [Nat.zero_add] at c1
            have r1 : (q : Int) < (l.length : Int) := by omega
            have r2 : (0 : Int) ≤ (q : Int) := by omega
            have hz' : Op.bytesLess l[q].p.toList fp.toList = lessAt l fp q := by unfold lessAt ltT; rw [dif_pos hql, Lib.toList_data, Lib.toList_data]
            generalize lessAt l fp q = z at *
            generalize l[q].p = up at *
            clear hps
            go_region
            go_wp2
            go_meet
            exact ⟨rfl, HPS.out.drew⟩
          · have r1 : ¬ (q : Int) < (l.length : Int) := by omega
            have HZ : Hid (lessAt l fp q = false) := by show _ = _; unfold lessAt; rw [dif_neg hql]
            clear hps
            go_region
            go_wp2
            go_meet
            exact ⟨by rw [HZ.out], HPS.out.drew⟩
        case rest =>
        obtain ⟨rfl, hps⟩ := hcut
        have HPW := hidT hps
        clear hps HPS
        have HYES : Hid (lessAt l fp q = true → q < l.length ∧ ∀ j (h : j < l.length), j < q + 1 → ltT l[j].p fp = true) := fun h0 => by
          unfold lessAt at h0
          split at h0
          · rename_i hql
            exact ⟨hql, fun j hj hjk => by
              by_cases e : j = q
              · subst e; exact h0
              · exact HQ.out j hj (by omega)⟩
          · cases h0
        have HNOT : Hid (lessAt l fp q = false → q = placeL l fp) := fun h0 => placeL_is l fp q hq HQ.out (fun hql => by unfold lessAt at h0; rw [dif_pos hql] at h0; exact h0)
        generalize lessAt l fp q = z at *
        cases z
        · have HQP := hidT (HNOT.out rfl)
          clear HYES HNOT HQ
          have htk : (l.take q).length = q := by simp; omega
          have HTK := hidT htk
          have hwc := HPW.out.size
          have hv : PS w (wc.alloc (.cells #[] 36)) g l f := HPW.out.below ((Below.refl wc.heap.size wc).alloc (Nat.le_refl _) _)
          have hq9 := Sha.row_new wc [] 36
          obtain ⟨V9, hV9⟩ : ∃ V, V = wc.alloc (.cells #[] 36) := ⟨_, rfl⟩
          rw [← hV9] at hv
          have hq9 : HasRow V9 wc.heap.size [] 36 := by rw [hV9]; exact hq9
          have hX9 := hV9.symm
          have HO9 : Hid (OwnF V9 (w.heap.size + 3) (.slice (some ⟨wc.heap.size, 0, none⟩) 0 0) []) := ownF_empty (by omega) hq9
          have t0 : V9.cell? ⟨w.heap.size, 0, none⟩ = some (.slice (some ⟨g, 0, none⟩) l.length l.length) := Mem.cell_of_row hv.tree 0
          have HV9 := hidT hv
          have hs9 := hv.size
          have hp1 : (q : Int) ≤ (l.length : Int) := by omega
          have hp2 : (0 : Int) ≤ (q : Int) := by omega
          clear hv HPW htk hV9 hq9
          go_wp2_with (first
            | (at_builtin; refine wp_fileN (by rfl) _ _ (by rfl) (w.heap.size + 3) y1.heap.size q _ (l.take q) ⟨fp, fm, fd⟩ HTK.out (by rfl) (by rfl) (HO1.out.below ((Below.refl y1.heap.size y1).alloc (Nat.le_refl _) _) (Nat.le_refl _)) (by have := HP1.out.size; simp; omega) (Sha.row_new y1 [.string fp, .int .i64 fm, .string fd] 36) (by omega) ?_; intro g2 c2 y2 ho2 hg2; have HP2 := hidT ((HP1.out.below ((Below.refl y1.heap.size y1).alloc (Nat.le_refl _) (.cells #[.string fp, .int .i64 fm, .string fd] 36))).grown HF0.out hg2 (fun k hk => (HO1.out.lt k hk).1)); have HO2 := hidT ho2; clear ho2 hg2 HO1 HP1 b0 b1 b2 hs1)
            | (at_builtin; refine wp_filesN (by rfl) _ _ (by rfl) (w.heap.size + 3) q l.length q (some ⟨g, 0, none⟩) (.slice (some ⟨wc.heap.size, 0, none⟩) 0 0) [] (l.take q) (by rw [HTK.out]; simp) HTK.out.symm (by rfl) (by rfl) HO9.out (by omega) g 0 (fun _ => rfl) (take_files HV9.out.files _) (by omega) ?_; intro ad1 cc1 y1 ho1 hg1; have HP1 := hidT (HV9.out.grown HF0.out hg1 (fun k hk => (HO9.out.lt k hk).1)); have HO1 : Hid (OwnF y1 (w.heap.size + 3) (.slice ad1 q cc1) (l.take q)) := ho1; clear t0 ho1 hg1; have b0 := Mem.cell_of_row HP1.out.file 0; have b1 := Mem.cell_of_row HP1.out.file 1; have b2 := Mem.cell_of_row HP1.out.file 2; have hs1 := HP1.out.size; rw [← HFL.out] at b0 b1 b2; dsimp only at b0 b1 b2))
          go_cut [68] (fun t wx => t = .bool (hereAt l fp q) ∧ PS w wx g l f ∧ OwnF wx (w.heap.size + 3) (.slice (some ⟨g2, 0, none⟩) (q + 1) c2) (l.take q ++ [⟨fp, fm, fd⟩]))
          case first =>
            have hps := HP2.out
            have f0 : y2.cell? ⟨w.heap.size + 1, 0, none⟩ = some (.string fp) := by have := Mem.cell_of_row hps.file 0; rw [← HFL.out] at this; exact this
            have t0 : y2.cell? ⟨w.heap.size, 0, none⟩ = some (.slice (some ⟨g, 0, none⟩) l.length l.length) := Mem.cell_of_row hps.tree 0
            by_cases hql : q < l.length
            · obtain ⟨⟨c1, _, _⟩, _⟩ := hps.files q hql
              rw [Nat.zero_add] at c1
              have r1 : (q : Int) < (l.length : Int) := by omega
              have hz' : (l[q].p.toList == fp.toList) = hereAt l fp q := by unfold hereAt sameT; rw [dif_pos hql, Lib.toList_data, Lib.toList_data]
              generalize hereAt l fp q = z at *
              generalize l[q].p = up at *
              clear hps
              go_region
              go_wp2
              go_meet
              exact ⟨rfl, HP2.out.drew, HO2.out.below (Below.refl y2.heap.size y2).drew (Nat.le_refl _)⟩
            · have r1 : ¬ (q : Int) < (l.length : Int) := by omega
              have HZ : Hid (hereAt l fp q = false) := by show _ = _; unfold hereAt; rw [dif_neg hql]
              clear hps
              go_region
              go_wp2
              go_meet
              exact ⟨by rw [HZ.out], HP2.out.drew, HO2.out.below (Below.refl y2.heap.size y2).drew (Nat.le_refl _)⟩
          case rest =>
          obtain ⟨rfl, hps, hof⟩ := hcut
          have HP3 := hidT hps
          have HO3 := hidT hof
          clear hps hof HP2 HO2
          have HHE : Hid (hereL l fp = hereAt l fp q) := by
            show _ = _
            unfold hereL hereAt
            rw [← HQP.out]
            by_cases hql : q < l.length
            · rw [List.getElem?_eq_getElem hql, dif_pos hql]
            · rw [List.getElem?_eq_none (by omega), dif_neg hql]
          have HLT : Hid (hereAt l fp q = true → q < l.length) := fun h => by
            unfold hereAt at h
            split at h
            · assumption
            · cases h
          generalize hereAt l fp q = z at *
          cases z
          · clear HLT
            obtain ⟨ad5, hsl⟩ := slice_tail g l.length (q) (by omega)
            have hsl1 : ∀ W, (Instr.slice 29 (.slice (some ⟨g, 0, none⟩) l.length l.length) (some (.int .i64 ((q : Int)))) none none).run Try.prog W = .ok (.slice ad5 (l.length - (q)) (l.length - (q))) W := fun W => by
              have := (hsl W).1
              rwa [show (((q) : Nat) : Int) = (q : Int) by omega] at this
            have HAD := hidT ((hsl wc).2)
            clear hsl
            have hdl : (l.drop (q)).length = l.length - (q) := by simp
            have HDL := hidT hdl
            obtain ⟨N, hN⟩ : ∃ N, N = q + 1 + (l.length - (q)) := ⟨_, rfl⟩
            have HNN := hidT hN
            obtain ⟨M, hM⟩ : ∃ M, M = l.length - (q) := ⟨_, rfl⟩
            rw [← hM] at hsl1 hdl HAD
            have HMM := hidT hM
            have hNb : (N : Int) ≤ 8 := by omega
            clear hdl hN hM
            have t0 : wc.cell? ⟨w.heap.size, 0, none⟩ = some (.slice (some ⟨g, 0, none⟩) l.length l.length) := Mem.cell_of_row HP3.out.tree 0
            go_upto_region 14 with (at_builtin; refine wp_filesN (by rfl) _ _ (by rfl) (w.heap.size + 3) M M N ad5 (.slice (some ⟨g2, 0, none⟩) (q + 1) c2) (l.take q ++ [⟨fp, fm, fd⟩]) (l.drop (q)) (by rw [HNN.out, HDL.out, List.length_append, HTK.out]; rfl) (by rw [HDL.out, HMM.out]) (by rfl) (by rfl) HO3.out (by have := HP3.out.size; omega) g ((q) * 3) HAD.out (drop_files HP3.out.files _) (by omega) ?_; intro au cu y3 ho3 hg3; have HP4 := hidT (HP3.out.grown HF0.out hg3 (fun k hk => (HO3.out.lt k hk).1)); have HO4 := hidT ho3; clear t0 ho3 hg3 HO3 HP3)
            have HLL : Hid ((l.take q ++ [⟨fp, fm, fd⟩]) ++ l.drop (q) = putL l ⟨fp, fm, fd⟩) := by
              show _ = _
              unfold putL
              rw [← HQP.out, HHE.out]
              simp
            by_cases hbig : 6 < N
            · have p6 : (6 : Int) < (N : Int) := by omega
              have hO : putO l ⟨fp, fm, fd⟩ = ([], 9) := by
                unfold putO
                have h1 : ¬ ((l.any fun y => cross y.p (⟨fp, fm, fd⟩ : Fl).p) = true) := by rw [HNO.out]; decide
                rw [if_neg h1, ← HLL.out, if_neg]
                rw [List.length_append, List.length_append, HTK.out, HDL.out]
                have := HNN.out
                simp; omega
              have HOO := hidT hO
              clear hO HLL
              go_wp2_with fail
              refine (KI.out 9 y3).mono ?_
              rintro e w9 ⟨rfl, hb9⟩
              have hp9 := HP4.out.below hb9
              have o0 : w9.cell? ⟨w.heap.size + 2, 0, none⟩ = some (.slice none 0 0) := Mem.cell_of_row hp9.out 0
              have o1 : w9.cell? ⟨w.heap.size + 2, 1, none⟩ = some (.int .i64 0) := Mem.cell_of_row hp9.out 1
              have of0 := Mem.frozen_of_row hp9.out 0
              have of1 := Mem.frozen_of_row hp9.out 1
              have HB9 := hidT hp9.bel
              clear hb9 hp9
              go_wp2
              exact bodyPost_ret (v := .agg #[.slice none 0 0, .int .i64 9]) (by simp [results, Try.results45, go_sem, o0, o1]) rfl ⟨_, by rw [HOO.out], by rw [HOO.out]; exact .inr ⟨rfl, rfl⟩, (fun k hk => by cases hk), (HB9.out.setCell (p := ⟨w.heap.size + 2, 0, none⟩) (by simp) _).setCell (p := ⟨w.heap.size + 2, 1, none⟩) (by simp) _⟩
            · have p6 : ¬ (6 : Int) < (N : Int) := by omega
              have hO : putO l ⟨fp, fm, fd⟩ = (putL l ⟨fp, fm, fd⟩, 0) := by
                unfold putO
                have h1 : ¬ ((l.any fun y => cross y.p (⟨fp, fm, fd⟩ : Fl).p) = true) := by rw [HNO.out]; decide
                rw [if_neg h1, if_pos]
                rw [← HLL.out, List.length_append, List.length_append, HTK.out, HDL.out]
                have := HNN.out
                simp; omega
              have HOO := hidT hO
              clear hO
              have o0 : y3.cell? ⟨w.heap.size + 2, 0, none⟩ = some (.slice none 0 0) := Mem.cell_of_row HP4.out.out 0
              have o1 : y3.cell? ⟨w.heap.size + 2, 1, none⟩ = some (.int .i64 0) := Mem.cell_of_row HP4.out.out 1
              have of0 := Mem.frozen_of_row HP4.out.out 0
              have of1 := Mem.frozen_of_row HP4.out.out 1
              have hnb : ∀ k, (Value.slice au N cu).ownBlock = some k → w.heap.size + 3 ≤ k := fun k hk => (HO4.out.lt k hk).1
              have HM4 := hidT (((HO4.out.setCell (a := ⟨w.heap.size + 2, 0, none⟩) (fun e => by have := hnb _ e; simp only at this; omega) (.slice au N cu)).setCell (a := ⟨w.heap.size + 2, 1, none⟩) (fun e => by have := hnb _ e; simp only at this; omega) (.int .i64 0)).mk)
              have HB4 := hidT HP4.out.bel
              have HNB : Hid (∀ k, (Value.slice au N cu).ownBlock = some k → w.heap.size ≤ k) := fun k hk => by have := hnb k hk; omega
              clear hnb HP4 HO4
              go_wp2
              exact bodyPost_ret (v := .agg #[.slice au N cu, .int .i64 0]) (by simp [results, Try.results45, go_sem, o0, o1]) rfl ⟨_, by rw [HOO.out], by rw [HOO.out, ← HLL.out]; exact HM4.out, HNB.out, (HB4.out.setCell (p := ⟨w.heap.size + 2, 0, none⟩) (by simp) _).setCell (p := ⟨w.heap.size + 2, 1, none⟩) (by simp) _⟩
          · have hql := HLT.out rfl
            clear HLT
            obtain ⟨ad5, hsl⟩ := slice_tail g l.length (q + 1) (by omega)
            have hsl1 : ∀ W, (Instr.slice 29 (.slice (some ⟨g, 0, none⟩) l.length l.length) (some (.int .i64 ((q : Int) + 1))) none none).run Try.prog W = .ok (.slice ad5 (l.length - (q + 1)) (l.length - (q + 1))) W := fun W => by
              have := (hsl W).1
              rwa [show (((q + 1) : Nat) : Int) = (q : Int) + 1 by omega] at this
            have HAD := hidT ((hsl wc).2)
            clear hsl
            have hdl : (l.drop (q + 1)).length = l.length - (q + 1) := by simp
            have HDL := hidT hdl
            obtain ⟨N, hN⟩ : ∃ N, N = q + 1 + (l.length - (q + 1)) := ⟨_, rfl⟩
            have HNN := hidT hN
            obtain ⟨M, hM⟩ : ∃ M, M = l.length - (q + 1) := ⟨_, rfl⟩
            rw [← hM] at hsl1 hdl HAD
            have HMM := hidT hM
            have hNb : (N : Int) ≤ 8 := by omega
            clear hdl hN hM
            have t0 : wc.cell? ⟨w.heap.size, 0, none⟩ = some (.slice (some ⟨g, 0, none⟩) l.length l.length) := Mem.cell_of_row HP3.out.tree 0
            go_upto_region 14 with (at_builtin; refine wp_filesN (by rfl) _ _ (by rfl) (w.heap.size + 3) M M N ad5 (.slice (some ⟨g2, 0, none⟩) (q + 1) c2) (l.take q ++ [⟨fp, fm, fd⟩]) (l.drop (q + 1)) (by rw [HNN.out, HDL.out, List.length_append, HTK.out]; rfl) (by rw [HDL.out, HMM.out]) (by rfl) (by rfl) HO3.out (by have := HP3.out.size; omega) g ((q + 1) * 3) HAD.out (drop_files HP3.out.files _) (by omega) ?_; intro au cu y3 ho3 hg3; have HP4 := hidT (HP3.out.grown HF0.out hg3 (fun k hk => (HO3.out.lt k hk).1)); have HO4 := hidT ho3; clear t0 ho3 hg3 HO3 HP3)
            have HLL : Hid ((l.take q ++ [⟨fp, fm, fd⟩]) ++ l.drop (q + 1) = putL l ⟨fp, fm, fd⟩) := by
              show _ = _
              unfold putL
              rw [← HQP.out, HHE.out]
              simp
            by_cases hbig : 6 < N
            · have p6 : (6 : Int) < (N : Int) := by omega
              have hO : putO l ⟨fp, fm, fd⟩ = ([], 9) := by
                unfold putO
                have h1 : ¬ ((l.any fun y => cross y.p (⟨fp, fm, fd⟩ : Fl).p) = true) := by rw [HNO.out]; decide
                rw [if_neg h1, ← HLL.out, if_neg]
                rw [List.length_append, List.length_append, HTK.out, HDL.out]
                have := HNN.out
                simp; omega
              have HOO := hidT hO
              clear hO HLL
              go_wp2_with fail
              refine (KI.out 9 y3).mono ?_
              rintro e w9 ⟨rfl, hb9⟩
              have hp9 := HP4.out.below hb9
              have o0 : w9.cell? ⟨w.heap.size + 2, 0, none⟩ = some (.slice none 0 0) := Mem.cell_of_row hp9.out 0
              have o1 : w9.cell? ⟨w.heap.size + 2, 1, none⟩ = some (.int .i64 0) := Mem.cell_of_row hp9.out 1
              have of0 := Mem.frozen_of_row hp9.out 0
              have of1 := Mem.frozen_of_row hp9.out 1
              have HB9 := hidT hp9.bel
              clear hb9 hp9
              go_wp2
              exact bodyPost_ret (v := .agg #[.slice none 0 0, .int .i64 9]) (by simp [results, Try.results45, go_sem, o0, o1]) rfl ⟨_, by rw [HOO.out], by rw [HOO.out]; exact .inr ⟨rfl, rfl⟩, (fun k hk => by cases hk), (HB9.out.setCell (p := ⟨w.heap.size + 2, 0, none⟩) (by simp) _).setCell (p := ⟨w.heap.size + 2, 1, none⟩) (by simp) _⟩
            · have p6 : ¬ (6 : Int) < (N : Int) := by omega
              have hO : putO l ⟨fp, fm, fd⟩ = (putL l ⟨fp, fm, fd⟩, 0) := by
                unfold putO
                have h1 : ¬ ((l.any fun y => cross y.p (⟨fp, fm, fd⟩ : Fl).p) = true) := by rw [HNO.out]; decide
                rw [if_neg h1, if_pos]
                rw [← HLL.out, List.length_append, List.length_append, HTK.out, HDL.out]
                have := HNN.out
                simp; omega
              have HOO := hidT hO
              clear hO
              have o0 : y3.cell? ⟨w.heap.size + 2, 0, none⟩ = some (.slice none 0 0) := Mem.cell_of_row HP4.out.out 0
              have o1 : y3.cell? ⟨w.heap.size + 2, 1, none⟩ = some (.int .i64 0) := Mem.cell_of_row HP4.out.out 1
              have of0 := Mem.frozen_of_row HP4.out.out 0
              have of1 := Mem.frozen_of_row HP4.out.out 1
              have hnb : ∀ k, (Value.slice au N cu).ownBlock = some k → w.heap.size + 3 ≤ k := fun k hk => (HO4.out.lt k hk).1
              have HM4 := hidT (((HO4.out.setCell (a := ⟨w.heap.size + 2, 0, none⟩) (fun e => by have := hnb _ e; simp only at this; omega) (.slice au N cu)).setCell (a := ⟨w.heap.size + 2, 1, none⟩) (fun e => by have := hnb _ e; simp only at this; omega) (.int .i64 0)).mk)
              have HB4 := hidT HP4.out.bel
              have HNB : Hid (∀ k, (Value.slice au N cu).ownBlock = some k → w.heap.size ≤ k) := fun k hk => by have := hnb k hk; omega
              clear hnb HP4 HO4
              go_wp2
              exact bodyPost_ret (v := .agg #[.slice au N cu, .int .i64 0]) (by simp [results, Try.results45, go_sem, o0, o1]) rfl ⟨_, by rw [HOO.out], by rw [HOO.out, ← HLL.out]; exact HM4.out, HNB.out, (HB4.out.setCell (p := ⟨w.heap.size + 2, 0, none⟩) (by simp) _).setCell (p := ⟨w.heap.size + 2, 1, none⟩) (by simp) _⟩
        · obtain ⟨y1, y2⟩ := HYES.out rfl
          have HQ2 := hidT y2
          clear HYES HNOT HQ y2
          go_wp2
          go_roundw
          case rel => exact ⟨q + 1, by omega, by go_num, HPW.out, HQ2⟩
          case measure => simp [intOf]; omega
end Go.Proofs.Ytfpgobkedfhakaa.Tre
