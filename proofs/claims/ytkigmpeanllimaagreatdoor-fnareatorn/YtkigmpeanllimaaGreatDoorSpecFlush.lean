/- What the model's DiskFlush answers. -/
import Derived.Test.YtkigmpeanllimaaGreatDoorTextsC
namespace Go.Proofs.YtkigmpeanllimaaGreatDoor.Disk
open Go.RowKit Go.Proofs.YtkigmpeanllimaaGreatDoor.Mem Go.Proofs.YtkigmpeanllimaaGreatDoor.Harn Go.Proofs.YtkigmpeanllimaaGreatDoor.DiskP

/-- An 'append' whose run is known, in a plain region. -/
theorem wp_app {P : Program} {w : World} {ops : Array Oper} {rest : List Oper} {o : Oper} {a : Act} {Q : Exit → Act → World → Prop} (hgd : o.guard = none) (s x : Operand) (t : TypeId)
    (ho : o.op = .call { callee := .builtin .append, args := #[s, x], argTypes := #[t, t] }) (v u r : Value) (w' : World) (hs : a.eval s = v) (hx : a.eval x = u)
    (hr : (Builtin.append_ #[t, t] o.type #[v, u]).run P w = .ok r w') (h : wpList P ops Q rest (a.put o.dst r) w') : wpList P ops Q (o :: rest) a w := by
  refine wpList_plain hgd fun K hK => ?_
  unfold Oper.wp execOp
  simp only [ho, resolve, invoke, builtin, Sem.run_bind, Sem.run_pure, Result.andThen_ok, List.map_toArray, List.map_cons, List.map_nil, hs, hx, hr]
  exact hK _ _ h
theorem wp_strs {w : World} {ops : Array Oper} {rest : List Oper} {o : Oper} {a : Act} {Q : Exit → Act → World → Prop} (hgd : o.guard = none) (s x : Operand)
    (ho : o.op = .call { callee := .builtin .append, args := #[s, x], argTypes := #[23, 23] }) (g0 : Nat) (v : Value) (ls : List ByteArray) (hs : a.eval s = .slice (some ⟨g0, 0, none⟩) 0 0) (hx : a.eval x = v)
    (h : Strs w v ls) (hn : ls.length ≤ 1100000) (hg0 : g0 < w.heap.size)
    (hK : ∀ g cap w', StrsAt w' g 0 ls → (g = g0 ∨ w.heap.size ≤ g) → g < w'.heap.size → Below w.heap.size w w' → wpList Tryz.prog ops Q rest (a.put o.dst (.slice (some ⟨g, 0, none⟩) ls.length cap)) w') : wpList Tryz.prog ops Q (o :: rest) a w := by
  obtain ⟨g, cap, w', hr, h1, h2, h3, h4⟩ := app_strs o.type g0 v ls w h hn hg0
  exact wp_app hgd s x _ ho _ _ _ w' hs hx hr (hK g cap w' h1 h2 h3 h4)

set_option maxRecDepth 100000 in
set_option maxHeartbeats 2000000 in
theorem specFlush_own (vs vp : Value) (ls : List ByteArray) (lp : List (Int × ByteArray)) (w : World) (hs : Strs w vs ls) (hp : Pends w vp lp) (h1 : ls.length ≤ 1100000) (h2 : lp.length ≤ 1100000) (h3 : ∀ t ∈ ls, t.size ≤ maxLen) (h4 : ∀ y ∈ lp, y.2.size ≤ maxLen ∧ -9223372036854775808 ≤ y.1 ∧ y.1 ≤ 9223372036854775807) :
    Calls Tryz.prog 46 #[.agg #[vs, vp]] w fun e w' => ToldP w (flushO ls lp) e w' := by
  obtain ⟨W0, hW0⟩ : ∃ W0, W0 = (w.alloc (.cells #[vs, vp] 26)).alloc (.cells #[.slice none 0 0, .slice none 0 0, .string { data := #[] }, .int .i64 0] 69) := ⟨_, rfl⟩
  have HB0 : Hid (Below w.heap.size w W0) := by rw [hW0]; exact ((Below.refl _ _).alloc (Nat.le_refl _) _).alloc (by simp) _
  have HX0 : Hid (Box2 W0 w.heap.size vs vp) := by rw [hW0]; exact box2_new w vs vp _
  have HY0 : Hid (Box4 W0 (w.heap.size + 1)) := by rw [hW0]; exact box4_new w _
  have HZ0 : Hid (W0.heap.size = w.heap.size + 2) := by rw [hW0]; simp [Hid]
  have HK : Hid (Calls Tryz.prog 36 #[.agg #[vs, vp]] W0 fun e w' => e = .returned (.bool (rightB ls lp)) ∧ Below W0.heap.size W0 w') := specRight_any vs vp ls lp _ (Strs.below hs HB0.out) (Pends.below hp HB0.out) h1 h2 h3 h4
  have HS : Hid (Strs w vs ls) := hs
  have HP : Hid (Pends w vp lp) := hp
  clear hs hp h3 h4
  cases hr : rightB ls lp with
  | false =>
    rw [hr] at HK
    rw [flushO_form hr]
    clear hr
    go_enter Tryz.func46, Tryz.ntmps46
    go_wp2_with fail
    rw [← hW0]
    refine HK.out.mono ?_
    rintro e w1 ⟨rfl, hb1⟩
    have hz1 := hb1.size
    have HB1 : Hid (Below w.heap.size w w1) := bT HB0.out hb1
    have HY1 : Hid _ := Box4.below HY0.out hb1 (by have := HZ0.out; omega)
    have hz2 : w.heap.size + 2 ≤ w1.heap.size := by have := HZ0.out; omega
    clear hb1 hz1 hW0
    go_wp2_with (go_at_call 68; refine (ill_any 1 _).mono ?_; rintro e w2 ⟨rfl, hb2⟩; obtain ⟨m0, m1, m2, m3, mf⟩ := (Box4.below HY1.out hb2 (by omega)).cells; have HB2 : Hid (Below w.heap.size w w2) := bT HB1.out hb2; clear hb2)
    refine bodyPost_ret (v := outV (.slice none 0 0) (.slice none 0 0) ByteArray.empty 1) (by simp [results, Tryz.results46, go_sem, m0, m1, m2, m3]) rfl ⟨_, _, rfl, own_zero _ _ _, ?_, ownP_nil _ _, fun _ => rfl⟩
    repeat' (first | exact HB2.out | refine Below.setCell ?_ (by simp) _)
  | true =>
    obtain ⟨r1, r2, r3, r4, r5, r6, r7⟩ := right_pends hr
    have R1 : Hid (∀ y ∈ lp, 0 ≤ y.1 ∧ y.1 < ls.length) := fun y hy => by have := ((right_iff ls lp).1 hr).2.2.2.2 y hy; unfold okP at this; omega
    rw [hr] at HK
    rw [flushO_ok hr]
    clear hr r1 r2 r3 r7
    go_enter Tryz.func46, Tryz.ntmps46
    go_wp2_with fail
    rw [← hW0]
    refine HK.out.mono ?_
    rintro e w1 ⟨rfl, hb1⟩
    have hz1 : w.heap.size + 2 ≤ w1.heap.size := by have := hb1.size; have := HZ0.out; omega
    have HB1 : Hid (Below w.heap.size w w1) := bT HB0.out hb1
    have HX1 : Hid _ := Box2.below HX0.out hb1 (by have := HZ0.out; omega)
    have HY1 : Hid _ := Box4.below HY0.out hb1 (by have := HZ0.out; omega)
    have HX1' : Hid (Box2 (w1.alloc (.cells #[] 9)) w.heap.size vs vp) := Sha.row_alloc HX1.out _
    clear hb1 hW0
    obtain ⟨c0, c1, _⟩ := Box2.cells HX1'.out
    go_wp2_with (at_builtin; refine wp_strs rfl _ _ rfl w1.heap.size vs ls rfl rfl (Strs.below HS.out (bA HB1.out _)) h1 (by simp) ?_; intro g cap w2 hs2 hg2 hl2 hb2; simp at hg2; have hz2 := hb2.size; simp at hz2; have HS2 : Hid _ := hs2; have HB2 : Hid (Below w.heap.size w w2) := bT (bA HB1.out _) hb2; have HX2 : Hid _ := Box2.below HX1'.out hb2 (by simp; omega); have HY2 : Hid _ := Box4.below (Sha.row_alloc HY1.out _) hb2 (by simp; omega); clear hs2 hb2)
    clear c0 c1
    obtain ⟨a2, cap2, rfl, hc2⟩ := HP.out
    have HC : Hid (∀ j (h : j < lp.length), ∃ b o, a2 = some ⟨b, o, none⟩ ∧ w.cell? ⟨b, o + j * 2, none⟩ = some (.int .i64 lp[j].1) ∧ w.cell? ⟨b, o + j * 2 + 1, none⟩ = some (.string lp[j].2)) := hc2
    clear hc2
    have HG : Hid (w1.heap.size ≤ g) := by unfold Hid; omega
    go_loopw [4] (fun i wr => ∃ k : Nat, k ≤ lp.length ∧ i = .int .i64 k ∧ StrsAt wr g 0 (flushD ls (lp.take k)) ∧ Below w.heap.size w wr ∧ w2.heap.size + 1 ≤ wr.heap.size ∧ Box2 wr w.heap.size vs (.slice a2 lp.length cap2) ∧ Box4 wr (w.heap.size + 1) ∧ Box2 wr w2.heap.size (.slice (some ⟨g, 0, none⟩) ls.length cap) (.slice none 0 0)) (fun i _ => lp.length - (intOf i).toNat)
    case atStart =>
      have hq : Below w2.heap.size w2 (w2.alloc (.cells #[.slice (some ⟨g, 0, none⟩) ls.length cap, .slice none 0 0] 26)) := (Below.refl _ _).alloc (Nat.le_refl _) _
      exact ⟨0, by omega, rfl, StrsAt.below HS2.out hq, bA HB2.out _, by simp, Box2.below HX2.out hq (by omega), Box4.below HY2.out hq (by omega), Sha.row_new w2 [.slice (some ⟨g, 0, none⟩) ls.length cap, .slice none 0 0] 26⟩
    case round =>
      clear HS2 HB2 HX2 HY2 HX1 HY1 HX1' HB1 HX0 HY0 HZ0
      obtain ⟨k, hk, rfl, hst, hbel, hsz, hx, hy, ho⟩ := hrel
      have hgk := HG.out
      by_cases hlt : k < lp.length
      · obtain ⟨b, o, rfl, d1, d2⟩ := HC.out k hlt
        have c1 : wr.cell? ⟨b, o + k * 2, none⟩ = _ := (hbel.cell (World.block_lt_of_cell? w _ d1)).trans d1
        have c2 : wr.cell? ⟨b, o + k * 2 + 1, none⟩ = _ := (hbel.cell (World.block_lt_of_cell? w _ d2)).trans d2
        obtain ⟨x1, x2⟩ := R1.out _ (List.getElem_mem hlt)
        have HSN : Hid (flushD ls (lp.take (k + 1)) = (flushD ls (lp.take k)).set lp[k].1.toNat lp[k].2) := by unfold Hid; rw [List.take_succ_eq_append_getElem hlt, flushD_snoc]
        have hln := length_flushD ls (lp.take k)
        have p0 : (0 : Int) ≤ (k : Int) := by omega
        have p1 : (k : Int) < (lp.length : Int) := by omega
        obtain ⟨_, z1, _⟩ := hx.cells
        obtain ⟨z2, _, _⟩ := ho.cells
        generalize lp[k].2 = t at *
        generalize lp[k].1 = x at *
        obtain ⟨j, rfl⟩ := Int.eq_ofNat_of_zero_le x1
        rw [Int.toNat_natCast] at HSN
        obtain ⟨e1, f1⟩ := hst j (by omega)
        simp only [Nat.zero_add] at e1 f1
        have hgl := World.block_lt_of_cell? wr _ e1
        simp only at hgl
        have HST : Hid _ := hst
        have HBEL : Hid _ := hbel
        have HX : Hid _ := hx
        have HY : Hid _ := hy
        have HO : Hid _ := ho
        have hbl := World.block_lt_of_cell? w _ d1
        simp only at hbl
        generalize (flushD ls (lp.take k))[j] = t0 at *
        have n1 : ¬ g = w.heap.size := by omega
        have n2 : ¬ g = b := by omega
        have hgw : ¬ g = w2.heap.size := by omega
        clear d1 d2 hst hbel hx hy ho
        go_wp2_with fail
        go_region_held3 (fun w' => w'.cell? ⟨w2.heap.size, 0, none⟩ = some (.slice (some ⟨g, 0, none⟩) ls.length cap) ∧ w'.cell? ⟨w.heap.size, 1, none⟩ = some (.slice (some ⟨b, o, none⟩) lp.length cap2) ∧ w'.cell? ⟨b, o + k * 2, none⟩ = some (.int .i64 (j : Int)) ∧ w'.cell? ⟨b, o + k * 2 + 1, none⟩ = some (.string t))
          (first
            | go_keep
            | (go_split_ands; refine ⟨?_, ?_, ?_, ?_⟩ <;> (rw [World.cell?_setCell_other _ _ _ _ (by intro e; injection e with e _ _; omega)]; simp [*])))
          (fail)
        go_wp2
        have HS3 : Hid (StrsAt ((wr.drew).setCell ⟨g, j, none⟩ (.string t)) g 0 (flushD ls (lp.take (k + 1)))) := by
          unfold Hid
          rw [HSN.out]
          have := StrsAt.set (W := wr.drew) (i := j) HST.out (by omega) t
          simpa using this
        go_roundw
        case rel => exact ⟨k + 1, by omega, by go_num, HS3.out, (bD HBEL.out).setCell (p := ⟨g, j, none⟩) (by simp; omega) _, by simp; omega, Sha.row_other (Sha.row_drew HX.out) _ _ (by simp; omega), Sha.row_other (Sha.row_drew HY.out) _ _ (by simp; omega), Sha.row_other (Sha.row_drew HO.out) _ _ (by simp; omega)⟩
        case measure => simp [intOf]; omega
      · have e : k = lp.length := by omega
        subst e
        rw [List.take_length] at hst
        obtain ⟨_, z1, _⟩ := hx.cells
        obtain ⟨z2, z3, _⟩ := ho.cells
        obtain ⟨m0, m1, m2, m3, mf⟩ := hy.cells
        have HST : Hid _ := hst
        have HBEL : Hid _ := hbel
        have HLN : Hid ((flushD ls lp).length = ls.length) := length_flushD ls lp
        have hn0 : 0 < ls.length := by omega
        obtain ⟨e1, _⟩ := hst 0 (by have := HLN.out; omega)
        have hgl := World.block_lt_of_cell? wr _ e1
        simp only at hgl
        clear e1 hst hbel hx hy ho
        go_wp2_with fail
        refine bodyPost_ret (v := outV (.slice (some ⟨g, 0, none⟩) ls.length cap) (.slice none 0 0) ByteArray.empty 0) (by simp [results, Tryz.results46, go_sem, m0, m1, m2, m3]; rfl) rfl ⟨_, _, rfl, ?_, ?_, ownP_nil _ _, fun _ => rfl⟩
        · rw [← HLN.out]
          refine own_mk0 ?_ (by omega) (by simp; omega)
          repeat' (first | exact HST.out | refine StrsAt.other ?_ (by simp; omega) _)
        · repeat' (first | exact HBEL.out | refine Below.setCell ?_ (by simp) _)
theorem specFlush_any (vs vp : Value) (ls : List ByteArray) (lp : List (Int × ByteArray)) (w : World) (hs : Strs w vs ls) (hp : Pends w vp lp) (h1 : ls.length ≤ 1100000) (h2 : lp.length ≤ 1100000) (h3 : ∀ t ∈ ls, t.size ≤ maxLen) (h4 : ∀ y ∈ lp, y.2.size ≤ maxLen ∧ -9223372036854775808 ≤ y.1 ∧ y.1 ≤ 9223372036854775807) :
    Calls Tryz.prog 46 #[.agg #[vs, vp]] w fun e w' => Told w (flushO ls lp) e w' := (specFlush_own vs vp ls lp w hs hp h1 h2 h3 h4).mono fun _ _ h => h.told
end Go.Proofs.YtkigmpeanllimaaGreatDoor.Disk
