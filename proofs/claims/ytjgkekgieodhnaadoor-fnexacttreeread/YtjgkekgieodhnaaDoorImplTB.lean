/- The program's TreeBytes. -/
import Derived.Test.YtjgkekgieodhnaaDoorTreeTexts
import Derived.Test.YtjgkekgieodhnaaDoorImplTree2
import Derived.Test.YtjgkekgieodhnaaDoorTextsC
import Derived.Test.YtjgkekgieodhnaaDoorTextsA
namespace Go.Proofs.YtjgkekgieodhnaaDoor.Tre
open Go.RowKit Go.Proofs.YtjgkekgieodhnaaDoor.Mem Go.Proofs.YtjgkekgieodhnaaDoor.Gf Go.Proofs.YtjgkekgieodhnaaDoor.Harn Go.Proofs.YtjgkekgieodhnaaDoor.Mark Go.Proofs.YtjgkekgieodhnaaDoor.Frm

theorem filesT_len : ∀ l : List Fl, (filesT l).length = l.length * 3
  | [] => rfl
  | f :: l => by
    have ih := filesT_len l
    have e : filesT (f :: l) = fileT f ++ filesT l := by simp [filesT]
    rw [e, List.length_append, ih]; simp [fileT]; omega
theorem step_three {w : World} {ops : Array Oper} {o : Oper} {a : Act} {K : Act → World → Prop} {Q : Exit → Act → World → Prop} {E : Prop} (hgd : o.guard = none) (s x : Operand)
    (ho : o.op = .call { callee := .builtin .append, args := #[s, x], argTypes := #[57, 57] }) (base b : Nat) (v : Value) (ls : List ByteArray) (t1 t2 t3 : ByteArray) (hs : a.eval s = v) (hx : a.eval x = .slice (some ⟨b, 0, none⟩) 3 3)
    (h : OwnS w base v ls) (hbase : base ≤ w.heap.size) (h0 : w.cell? ⟨b, 0, none⟩ = some (.string t1)) (h1 : w.cell? ⟨b, 1, none⟩ = some (.string t2)) (h2 : w.cell? ⟨b, 2, none⟩ = some (.string t3)) (hn : ls.length ≤ 1000000)
    (hK : ∀ g c w', OwnS w' base (.slice (some ⟨g, 0, none⟩) (ls.length + 3) c) (ls ++ [t1, t2, t3]) → w.grownBy w' v.ownBlock → K (a.put o.dst (.slice (some ⟨g, 0, none⟩) (ls.length + 3) c)) w') :
    if Region.wanted o (yielded ops a.tmps) = true then Oper.wp Tryd.prog o a w K Q else E := by
  obtain ⟨i, hi0, hz0, hz1, hz2⟩ := info_parts infoStr
  obtain ⟨g', cap, w', hr, hown, hgr, hat, hlt⟩ := run_append_lies (P := Tryd.prog) w 57 o.type base 9 i (.string ByteArray.empty) 1 16 underStrs hi0 hz0 hz1 hz2 rfl (by omega) v (ls.map Value.string).length (ls.map Value.string) h ⟨b, 0, none⟩ 3 3 [.string t1, .string t2, .string t3] rfl (fun j u hu => by
    rw [addr_add0]
    rcases j with _ | _ | _ | j
    · simp at hu; rw [h0, hu]
    · simp at hu; rw [h1, hu]
    · simp at hu; rw [h2, hu]
    · simp at hu) (by simp [Value.oneCell']) (by omega) (by unfold maxLen; simp; omega) (by simp; omega) hbase w.heap.size rfl
  have hl : (ls.map Value.string).length = ls.length := by simp
  rw [hl] at hr hown
  exact step_app hgd s x _ ho _ _ _ w' hs hx hr (hK g' cap w' (by unfold OwnS OwnV; rw [List.map_append]; simpa using hown) hgr)
theorem bAl {B : Nat} {w W : World} (h : Below B w W) (hB : B ≤ W.heap.size) (o : Obj) : Below B w (W.alloc o) := h.alloc hB o
set_option maxRecDepth 100000 in
set_option maxHeartbeats 1000000 in
theorem implTB_any (v : Value) (l : List Fl) (w : World) (h : Files w v l) (hn : l.length ≤ maxLen) (hs : ∀ y ∈ l, y.p.size ≤ maxLen ∧ y.d.size ≤ maxLen) (hcap : ∀ a n c, v = .slice a n c → n ≤ c) :
    Calls Tryd.prog 16 #[.agg #[v]] w fun e w' => e = .returned (.string (treeO l)) ∧ Below w.heap.size w w' := by
  have K1 : Hid (∀ W, Files W v l → Calls Tryd.prog 15 #[.agg #[v]] W fun e w' => e = .returned (.bool (treeR l)) ∧ Below W.heap.size W w') := fun W hW => implTR_any v l W hW hn hs hcap
  have HF := hidT h
  have hx0 : (w.alloc (.cells #[v] 24)).cell? ⟨w.heap.size, 0, none⟩ = some v := by simp
  have hB0 := (Below.refl w.heap.size w).alloc (Nat.le_refl _) (.cells #[v] 24)
  unfold treeO
  clear h hn hs hcap
  by_cases hr : treeR l = true
  · rw [hr] at K1 ⊢
    have h6 := treeR_le hr
    have hn : ((l.length : Nat) : Int) ≤ 6 := by omega
    have HB0 := hidT (fun k (h : k < l.length) => fileR_le (goodAt_file (treeR_at hr k h)))
    have KN : Hid (∀ n : Int, -9223372036854775808 ≤ n → n ≤ 9223372036854775807 → ∀ W, Calls Tryd.prog 29 #[.int .i64 n] W fun e w' => e = .returned (.string (PutNum.numB n)) ∧ Below W.heap.size W w') := fun n h1 h2 W => PutNum.implPutNum_any n W h1 h2
    have KL := hidT (KN.out (l.length : Nat) (by omega) (by omega))
    have HSZ := hidT (treeT_size hr)
    have HPOS := hidT (treeT_pos l)
    have HLEN : Hid ((treeT l).length ≤ 1000 ∧ 0 < (treeT l).length) := by
      have := filesT_len l
      unfold Hid treeT; rw [List.length_cons]; omega
    have KTG : Hid (∀ v W, Strs W v (treeT l) → Calls Tryd.prog 31 #[v] W fun e w' => e = .returned (.string (treeB l)) ∧ Below W.heap.size W w') := fun v W hW => together_any v (treeT l) W hW (by have := HSZ.out; omega) HLEN.out.1 HLEN.out.2 HPOS.out
    have HT0 : Hid (∀ k, k < l.length → (PutNum.numB (l.length : Nat) :: filesT (l.take k)) ++ [PutText.textB (l[k]?.getD Fl.zero).p, PutNum.numB (l[k]?.getD Fl.zero).m, PutText.textB (l[k]?.getD Fl.zero).d] = PutNum.numB (l.length : Nat) :: filesT (l.take (k + 1))) := fun k hk => by
      rw [filesT_one l k hk]; simp [hk, fileT]
    have HTE : Hid (PutNum.numB (l.length : Nat) :: filesT (l.take l.length) = treeT l) := by unfold Hid; rw [List.take_length]; rfl
    have HTL : Hid (∀ k, k ≤ l.length → (PutNum.numB (l.length : Nat) :: filesT (l.take k)).length ≤ 1000000) := fun k hk => by
      have := filesT_len (l.take k)
      have h2 : (l.take k).length ≤ l.length := by simp; omega
      rw [List.length_cons]; omega
    clear HSZ HPOS HLEN hr
    go_enter Tryd.func16, Tryd.ntmps16
    go_wp2_with fail
    refine (K1.out _ (Files.below HF.out hB0)).mono ?_
    rintro e w1 ⟨rfl, hb1⟩
    have HB1 := hidT (bstep hB0 hb1)
    have hx1 := (hb1.cell (p := ⟨w.heap.size, 0, none⟩) (by simp)).trans hx0
    clear hb1 hx0 hB0
    obtain ⟨a, cap, rfl, hc⟩ := HF.out
    have HC : Hid (RC w a l) := hc
    clear hc HF
    go_wp2_with fail
    refine (KL.out _).mono ?_
    rintro e w2 ⟨rfl, hb2⟩
    have HB2 := hidT (bstep HB1.out hb2)
    have hx2 := (hb2.cell (p := ⟨w.heap.size, 0, none⟩) (World.block_lt_of_cell? w1 _ hx1)).trans hx1
    clear hb2 hx1
    have l2 := World.block_lt_of_cell? w2 _ hx2
    simp only at l2
    go_wp2_with fail
    have HOW : Hid (OwnS (w2.alloc (.cells #[.string (PutNum.numB (l.length : Nat))] 9)) w2.heap.size (.slice (some ⟨w2.heap.size, 0, none⟩) 1 1) (PutNum.numB (l.length : Nat) :: filesT (l.take 0))) := by
      have h1 : World.ownsRow (w2.alloc (.cells #[.string (PutNum.numB (l.length : Nat))] 9)) w2.heap.size 9 1 (.slice (some ⟨w2.heap.size, 0, none⟩) 1 1) 1 [.string (PutNum.numB (l.length : Nat))] := ⟨by simp, .inr ⟨w2.heap.size, 1, #[.string (PutNum.numB (l.length : Nat))], rfl, Nat.le_refl _, heap_alloc_new w2 _, Nat.le_refl _, by unfold maxLen; omega, by simp, by simp⟩⟩
      exact h1
    have HB2a := hidT (HB2.out.alloc HB2.out.size (.cells #[.string (PutNum.numB (l.length : Nat))] 9))
    generalize PutNum.numB (l.length : Nat) = nb at *
    have HZ := hidT HB2.out.size
    clear hx2 l2 HB1 HB2
    go_loopw [3, 17] (fun u i wr => ∃ k : Nat, k ≤ l.length ∧ i = .int .i64 k ∧ OwnS wr w2.heap.size u (nb :: filesT (l.take k)) ∧ Below w.heap.size w wr ∧ w2.heap.size ≤ wr.heap.size) (fun _ i _ => l.length - (intOf i).toNat)
    case atStart => exact ⟨0, Nat.zero_le _, rfl, HOW.out, HB2a.out, by simp⟩
    case round =>
      clear HOW HB2a
      obtain ⟨k, hk, rfl, hown, hbel, hzz⟩ := hrel
      by_cases hlt : k < l.length
      · obtain ⟨b, o, rfl, d1, d2, d3⟩ := HC.out k hlt
        have c1 : wr.cell? ⟨b, o + k * 3, none⟩ = _ := (hbel.cell (World.block_lt_of_cell? w _ d1)).trans d1
        have c2 : wr.cell? ⟨b, o + k * 3 + 1, none⟩ = _ := (hbel.cell (World.block_lt_of_cell? w _ d2)).trans d2
        have c3 : wr.cell? ⟨b, o + k * 3 + 2, none⟩ = _ := (hbel.cell (World.block_lt_of_cell? w _ d3)).trans d3
        have p1 : (k : Int) < (l.length : Int) := by omega
        have p0 : (0 : Int) ≤ (k : Int) := by omega
        have bd := HB0.out k hlt
        have J1 : Hid (∀ W, Calls Tryd.prog 30 #[.string l[k].p] W fun e w' => e = .returned (.string (PutText.textB l[k].p)) ∧ Below W.heap.size W w') := fun W => PutText.implPutText_in _ W (by omega)
        have J2 := hidT (KN.out l[k].m (by omega) (by omega))
        have J3 : Hid (∀ W, Calls Tryd.prog 30 #[.string l[k].d] W fun e w' => e = .returned (.string (PutText.textB l[k].d)) ∧ Below W.heap.size W w') := fun W => PutText.implPutText_in _ W (by omega)
        have HNEW := HT0.out k hlt
        have HTLk := hidT (HTL.out k hk)
        rw [List.getElem?_eq_getElem hlt, Option.getD_some] at HNEW
        have HNEW := hidT HNEW
        clear bd
        generalize PutText.textB l[k].p = t1 at *
        generalize PutNum.numB l[k].m = t2 at *
        generalize PutText.textB l[k].d = t3 at *
        generalize l[k].p = y1 at *
        generalize l[k].m = y2 at *
        generalize l[k].d = y3 at *
        generalize nb :: filesT (l.take k) = ls at *
        have HO := hidT hown
        have ag : Hid (some wr.heap.size ≠ u3.ownBlock) := fun e => by have := (OwnV.lt hown _ e.symm).2; omega
        have hz0 := hbel.size
        have HB := hidT (hbel.alloc hz0 (.cells #[.string y1, .int .i64 y2, .string y3] 38))
        have HO1 := hidT (OwnS.alloc hown (.cells #[.string y1, .int .i64 y2, .string y3] 38))
        have KC : Hid (∀ W, Below (wr.alloc (.cells #[.string y1, .int .i64 y2, .string y3] 38)).heap.size (wr.alloc (.cells #[.string y1, .int .i64 y2, .string y3] 38)) W → W.cell? ⟨wr.heap.size, 0, none⟩ = some (.string y1) ∧ W.cell? ⟨wr.heap.size, 1, none⟩ = some (.int .i64 y2) ∧ W.cell? ⟨wr.heap.size, 2, none⟩ = some (.string y3)) := fun W hb => ⟨(hb.cell (p := ⟨wr.heap.size, 0, none⟩) (by simp)).trans (by simp), (hb.cell (p := ⟨wr.heap.size, 1, none⟩) (by simp)).trans (by simp), (hb.cell (p := ⟨wr.heap.size, 2, none⟩) (by simp)).trans (by simp)⟩
        have NB := hidT (Below.refl (wr.alloc (.cells #[.string y1, .int .i64 y2, .string y3] 38)).heap.size (wr.alloc (.cells #[.string y1, .int .i64 y2, .string y3] 38)))
        clear d1 d2 d3 hbel hown
        go_wp2_with fail
        go_region_held3 (fun W => W.cell? ⟨wr.heap.size, 0, none⟩ = some (.string y1) ∧ W.cell? ⟨wr.heap.size, 1, none⟩ = some (.int .i64 y2) ∧ W.cell? ⟨wr.heap.size, 2, none⟩ = some (.string y3))
          (first
            | go_keep
            | (exact kQ)
            | (refine KC.out _ ?_; (repeat' (first | exact NB.out | apply bDr | (refine bAl ?_ (by have := NB.out.size; simp at this; simp; omega) _))); done))
          (first
            | (go_at_call_of 30 (Value.string y1); refine (J1.out _).mono ?_; rintro e w3 ⟨rfl, hb⟩; have NB2 := bstep (by repeat' (first | exact NB.out | apply bDr)) hb; clear NB hb; have NB := hidT NB2; clear NB2)
            | (go_at_call 29; refine (J2.out _).mono ?_; rintro e w4 ⟨rfl, hb⟩; have NB2 := bstep (by repeat' (first | exact NB.out | apply bDr)) hb; clear NB hb; have NB := hidT NB2; clear NB2)
            | (go_at_call_of 30 (Value.string y3); refine (J3.out _).mono ?_; rintro e w5 ⟨rfl, hb⟩; have NB2 := bstep (by repeat' (first | exact NB.out | apply bDr)) hb; clear NB hb; have NB := hidT NB2; clear NB2)
            | (refine step_three (by rfl) _ _ (by rfl) w2.heap.size w5.heap.size u3 ls t1 t2 t3 (by rfl) (by rfl) (OwnS.below HO1.out (by repeat' (first | exact NB.out | apply bDr | (refine bAl ?_ (by have := NB.out.size; simp at this; simp; omega) _))) (Nat.le_refl _)) (by have := NB.out.size; simp at this; simp; omega) (by simp) (by simp) (by simp) HTLk.out ?_; intro g6 c6 w6 ho6 hg6; have kQ : w6.cell? ⟨wr.heap.size, 0, none⟩ = some (.string y1) ∧ w6.cell? ⟨wr.heap.size, 1, none⟩ = some (.int .i64 y2) ∧ w6.cell? ⟨wr.heap.size, 2, none⟩ = some (.string y3) := ⟨(hg6.cell_far ⟨wr.heap.size, 0, none⟩ (by have := NB.out.size; simp at this; simp; omega) ag.out).trans (KC.out _ (by repeat' (first | exact NB.out | apply bDr | (refine bAl ?_ (by have := NB.out.size; simp at this; simp; omega) _)))).1, (hg6.cell_far ⟨wr.heap.size, 1, none⟩ (by have := NB.out.size; simp at this; simp; omega) ag.out).trans (KC.out _ (by repeat' (first | exact NB.out | apply bDr | (refine bAl ?_ (by have := NB.out.size; simp at this; simp; omega) _)))).2.1, (hg6.cell_far ⟨wr.heap.size, 2, none⟩ (by have := NB.out.size; simp at this; simp; omega) ag.out).trans (KC.out _ (by repeat' (first | exact NB.out | apply bDr | (refine bAl ?_ (by have := NB.out.size; simp at this; simp; omega) _)))).2.2⟩; have HO6 := hidT ho6; have HB6 : Hid (Below w.heap.size w w6) := (HB.out.trans ((by repeat' (first | exact NB.out | apply bDr | (refine bAl ?_ (by have := NB.out.size; simp at this; simp; omega) _))) |> fun (h : Below _ _ _) => h.mono HB.out.size)).trans (((Below.refl w2.heap.size _).grown hg6 (by have := NB.out.size; simp at this; simp; omega) (fun j hj => (OwnV.lt HO1.out j hj).1)).mono HZ.out); have HZ6 : Hid (w2.heap.size ≤ w6.heap.size) := by { have h8 := hg6.size; have := NB.out.size; simp at this h8; unfold Hid; omega }; clear ho6 hg6; simp only [CutCall.shut_cut] at *))
        unfold Hid
        refine wpAnyH_take (i := 12) (v := ?_) rfl (by kernel_rfl) (by kernel_rfl) (by kernel_rfl) (fun _ _ _ h => h) (Or.inl ⟨by rfl, ?_⟩) kQ ?_
        rotate_left
        · (intro w9 hS9; (try dsimp only at hS9); go_simp; (try with_reducible rfl))
        simp only [List.getElem_toArray, List.getElem_cons_succ, List.getElem_cons_zero, Act.put, List.setIfInBounds_toArray, List.set_cons_zero, List.set_cons_succ]
        refine wpAnyH_done (by kernel_rfl) ?_ _
        refine NoPanic.normal ?_
        have hsz := HO6.out
        have hz6 := HB6.out.size
        clear kQ c1 c2 c3
        go_wp2
        go_roundw
        case rel => exact ⟨k + 1, by omega, by go_num, by rw [← HNEW.out]; exact HO6.out, HB6.out, HZ6.out⟩
        case measure => simp [intOf]; omega
      · obtain rfl : k = l.length := by omega
        have HS : Hid (Strs wr u3 (treeT l)) := by rw [← HTE.out]; exact OwnS.strs hown
        have HB := hidT hbel
        clear hbel hown
        go_wp2_with fail
        refine (KTG.out _ _ HS.out).mono ?_
        rintro e w7 ⟨rfl, hb7⟩
        have HB7 := hidT (HB.out.trans (hb7.mono HB.out.size))
        clear hb7
        go_wp2
        go_ret
        exact ⟨rfl, HB7.out⟩
  · have hr : treeR l = false := by simpa using hr
    rw [hr] at K1 ⊢
    go_enter Tryd.func16, Tryd.ntmps16
    go_wp2_with fail
    refine (K1.out _ (Files.below HF.out hB0)).mono ?_
    rintro e w1 ⟨rfl, hb1⟩
    go_wp2
    go_ret
    exact ⟨rfl, bstep hB0 hb1⟩
end Go.Proofs.YtjgkekgieodhnaaDoor.Tre
