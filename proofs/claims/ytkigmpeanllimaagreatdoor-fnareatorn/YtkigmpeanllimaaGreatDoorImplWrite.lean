/- What the program's DiskWrite answers. -/
import Derived.Test.YtkigmpeanllimaaGreatDoorImplDisk
import Derived.Test.YtkigmpeanllimaaGreatDoorTextsC
import Derived.Test.YtkigmpeanllimaaGreatDoorTextsE
import Derived.Deep.RegionLaw
namespace Go.Proofs.YtkigmpeanllimaaGreatDoor.Disk
open Go.RowKit Go.Proofs.YtkigmpeanllimaaGreatDoor.Mem Go.Proofs.YtkigmpeanllimaaGreatDoor.Harn Go.Proofs.YtkigmpeanllimaaGreatDoor.DiskP

theorem step_one {w : World} {ops : Array Oper} {o : Oper} {a : Act} {K : Act → World → Prop} {Q : Exit → Act → World → Prop} {E : Prop} (hgd : o.guard = none) (s x : Operand)
    (ho : o.op = .call { callee := .builtin .append, args := #[s, x], argTypes := #[24, 24] }) (base g c b : Nat) (lp : List (Int × ByteArray)) (y : Int) (t : ByteArray) (hs : a.eval s = .slice (some ⟨g, 0, none⟩) lp.length c) (hx : a.eval x = .slice (some ⟨b, 0, none⟩) 1 1)
    (h : PendsAt w g 0 lp) (hw : c = lp.length ∨ w.ownsRow base 78 2 (.slice (some ⟨g, 0, none⟩) lp.length c) lp.length (pcells lp)) (hbase : base ≤ w.heap.size) (h0 : w.cell? ⟨b, 0, none⟩ = some (.int .i64 y)) (h1 : w.cell? ⟨b, 1, none⟩ = some (.string t)) (hn : lp.length ≤ 1100000)
    (hK : ∀ g' cap w', PendsAt w' g' 0 (lp ++ [(y, t)]) → (g' = g ∨ g' ≥ w.heap.size) → g' < w'.heap.size → Only (fun k => k = g) w w' → OwnP w' base (.slice (some ⟨g', 0, none⟩) (lp.length + 1) cap) (lp ++ [(y, t)]) → K (a.put o.dst (.slice (some ⟨g', 0, none⟩) (lp.length + 1) cap)) w') :
    if Region.wanted o (yielded ops a.tmps) = true then Oper.wp Tryz.prog o a w K Q else E := by
  obtain ⟨g', cap, w', hr, a1, a2, a3, a4, a5⟩ := app_any o.type base g c b lp y t w h hw hbase h0 h1 hn
  exact step_app hgd s x _ ho _ _ _ w' hs hx hr (hK g' cap w' a1 a2 a3 a4 a5)

theorem step_join {w : World} {ops : Array Oper} {o : Oper} {a : Act} {K : Act → World → Prop} {Q : Exit → Act → World → Prop} {E : Prop} (hgd : o.guard = none) (s x : Operand)
    (ho : o.op = .call { callee := .value (.func 60), args := #[s, x], argTypes := #[9, 9] }) (u t : ByteArray) (hs : a.eval s = .string u) (hx : a.eval x = .string t)
    (hc : Calls Tryz.prog 60 #[.string u, .string t] w fun e w' => e = .returned (.string t) ∧ Below w.heap.size w w')
    (hK : ∀ w', Below w.heap.size w w' → K (a.put o.dst (.string t)) w') :
    if Region.wanted o (yielded ops a.tmps) = true then Oper.wp Tryz.prog o a w K Q else E := by
  have hw : Region.wanted o (yielded ops a.tmps) = true := by simp [Region.wanted, hgd]
  rw [if_pos hw]
  have he : (execOp a.eval o).run Tryz.prog w = .ok (.enter 60 #[.string u, .string t]) w := by
    have hf : a.eval (.func 60) = .func (.func 60) #[] #[] := rfl
    generalize a.eval = ev at *
    simp [execOp, ho, resolve, invoke, hs, hx, hf, go_sem]
  unfold Oper.wp
  rw [he, Oper.upon_enter]
  refine hc.mono ?_
  rintro e w' ⟨rfl, hb⟩
  exact hK w' hb

set_option maxRecDepth 100000 in
set_option maxHeartbeats 2000000 in
theorem implWrite_any (vs vp : Value) (ls : List ByteArray) (lp : List (Int × ByteArray)) (x : Int) (s : ByteArray) (w : World) (hs : Strs w vs ls) (hp : Pends w vp lp) (hsz : s.size ≤ 1048576) (h1 : ls.length ≤ 1100000) (h2 : lp.length ≤ 1100000) (h3 : ∀ t ∈ ls, t.size ≤ maxLen) (h4 : ∀ y ∈ lp, y.2.size ≤ maxLen ∧ -9223372036854775808 ≤ y.1 ∧ y.1 ≤ 9223372036854775807) :
    Calls Tryz.prog 81 #[.agg #[vs, vp], .int .i64 x, .string s] w fun e w' => Told w (writeO ls lp x s) e w' := by
  obtain ⟨W0, hW0⟩ : ∃ W0, W0 = (w.alloc (.cells #[vs, vp] 26)).alloc (.cells #[.slice none 0 0, .slice none 0 0, .string { data := #[] }, .int .i64 0] 69) := ⟨_, rfl⟩
  have HB0 : Hid (Below w.heap.size w W0) := by rw [hW0]; exact ((Below.refl _ _).alloc (Nat.le_refl _) _).alloc (by simp) _
  have HX0 : Hid (Box2 W0 w.heap.size vs vp) := by rw [hW0]; exact box2_new w vs vp _
  have HY0 : Hid (Box4 W0 (w.heap.size + 1)) := by rw [hW0]; exact box4_new w _
  have HZ0 : Hid (W0.heap.size = w.heap.size + 2) := by rw [hW0]; simp [Hid]
  have HK : Hid (Calls Tryz.prog 35 #[.agg #[vs, vp]] W0 fun e w' => e = .returned (.bool (rightB ls lp)) ∧ Below W0.heap.size W0 w') := implRight_any vs vp ls lp _ (Strs.below hs HB0.out) (Pends.below hp HB0.out) h1 h2 h3 h4
  have HS : Hid (Strs w vs ls) := hs
  have HP : Hid (Pends w vp lp) := hp
  clear hs hp h3 h4
  by_cases s1 : 8000 < s.size
  · rw [writeO_size s1]
    go_enter Tryz.func81, Tryz.ntmps81
    go_wp2_with fail
    refine bodyPost_ret (v := outV (.slice none 0 0) (.slice none 0 0) ByteArray.empty 2) (by simp [results, Tryz.results81, go_sem]; rfl) rfl ⟨_, _, rfl, own_zero _ _ _, ?_⟩
    repeat' (first | exact ((Below.refl _ _).alloc (Nat.le_refl _) _).alloc (by simp) _ | refine Below.setCell ?_ (by simp) _)
  have hd8 : decide (8000 < (s.size : Int)) = false := decide_eq_false (by omega)
  cases hr : rightB ls lp with
  | false =>
    rw [hr] at HK
    rw [writeO_form s1 (.inl hr)]
    clear hr
    go_enter Tryz.func81, Tryz.ntmps81
    go_wp2_with fail
    rw [← hW0]
    refine HK.out.mono ?_
    rintro e w1 ⟨rfl, hb1⟩
    have hz1 := hb1.size
    have HB1 : Hid (Below w.heap.size w w1) := bT HB0.out hb1
    have HY1 : Hid _ := Box4.below HY0.out hb1 (by have := HZ0.out; omega)
    obtain ⟨m0, m1, m2, m3, mf⟩ := Box4.cells HY1.out
    clear hb1 hz1 hW0
    go_wp2_with fail
    refine bodyPost_ret (v := outV (.slice none 0 0) (.slice none 0 0) ByteArray.empty 1) (by simp [results, Tryz.results81, go_sem, m0, m1, m2, m3]; rfl) rfl ⟨_, _, rfl, own_zero _ _ _, ?_⟩
    repeat' (first | exact HB1.out | refine Below.setCell ?_ (by simp) _)
  | true =>
    obtain ⟨r1, r2, r3, r4, r5, r6, r7⟩ := right_pends hr
    have HR : Hid (rightB ls lp = true) := hr
    have R3 : Hid (∀ t ∈ ls, t.size ≤ 2000000) := r3
    have R7 : Hid (∀ y ∈ lp, y.2.size ≤ 2000000) := r7
    rw [hr] at HK
    clear hr r1 r2 r3 r7
    by_cases s2 : 64 < s.size
    · rw [writeO_form s1 (.inr s2)]
      go_enter Tryz.func81, Tryz.ntmps81
      go_wp2_with fail
      rw [← hW0]
      refine HK.out.mono ?_
      rintro e w1 ⟨rfl, hb1⟩
      have hz1 := hb1.size
      have HB1 : Hid (Below w.heap.size w w1) := bT HB0.out hb1
      have HY1 : Hid _ := Box4.below HY0.out hb1 (by have := HZ0.out; omega)
      obtain ⟨m0, m1, m2, m3, mf⟩ := Box4.cells HY1.out
      clear hb1 hz1 hW0
      go_wp2_with fail
      refine bodyPost_ret (v := outV (.slice none 0 0) (.slice none 0 0) ByteArray.empty 1) (by simp [results, Tryz.results81, go_sem, m0, m1, m2, m3]; rfl) rfl ⟨_, _, rfl, own_zero _ _ _, ?_⟩
      repeat' (first | exact HB1.out | refine Below.setCell ?_ (by simp) _)
    have hd6 : decide (64 < (s.size : Int)) = false := decide_eq_false (by omega)
    by_cases hx : 0 ≤ x ∧ x < ls.length
    · have HH : Hid (∀ W, Calls Tryz.prog 64 #[.agg #[vs, vp], .int .i64 x] W fun e w' => e = .returned (.bool true) ∧ Below W.heap.size W w') := by
        obtain ⟨va, c, rfl, _⟩ := HS.out
        exact fun W => has_yes va ls.length c vp x W hx.1 hx.2
      obtain ⟨vpa, vpc, rfl, _⟩ := HP.out
      by_cases hf : lp.length = 200
      · rw [writeO_full s2 HR.out hx hf]
        have hfe : ((lp.length : Int) == 200) = true := by simp [hf]
        have HHF : Hid (lp.length = 200) := hf
        clear hx hf
        go_enter Tryz.func81, Tryz.ntmps81
        go_wp2_with fail
        rw [← hW0]
        refine HK.out.mono ?_
        rintro e w1 ⟨rfl, hb1⟩
        have hz1 : w.heap.size + 2 ≤ w1.heap.size := by have := hb1.size; have := HZ0.out; omega
        have HB1 : Hid (Below w.heap.size w w1) := bT HB0.out hb1
        have HX1 : Hid _ := Box2.below HX0.out hb1 (by have := HZ0.out; omega)
        have HY1 : Hid _ := Box4.below HY0.out hb1 (by have := HZ0.out; omega)
        clear hb1 hW0
        obtain ⟨c0, c1, _⟩ := Box2.cells HX1.out
        go_wp2_with (go_at_call 64; refine (HH.out _).mono ?_; rintro e w2 ⟨rfl, hb2⟩; have HB2 : Hid (Below w.heap.size w w2) := bT HB1.out hb2; have HX2 : Hid _ := Box2.below HX1.out hb2 (by omega); clear c0 c1; obtain ⟨c0, c1, _⟩ := Box2.cells HX2.out; obtain ⟨m0, m1, m2, m3, mf⟩ := (Box4.below HY1.out hb2 (by omega)).cells; clear hb2)
        refine bodyPost_ret (v := outV (.slice none 0 0) (.slice none 0 0) ByteArray.empty 9) (by simp [results, Tryz.results81, go_sem, m0, m1, m2, m3]; rfl) rfl ⟨_, _, rfl, own_zero _ _ _, ?_⟩
        repeat' (first | exact HB2.out | refine Below.setCell ?_ (by simp) _)
      · rw [writeO_ok s2 HR.out hx hf]
        have hfe : ((lp.length : Int) == 200) = false := by simp; omega
        have HJ : Hid (∀ W, Calls Tryz.prog 60 #[.string ByteArray.empty, .string s] W fun e w' => e = .returned (.string s) ∧ Below W.heap.size W w') := fun W => join_empty _ W (by omega)
        clear hx
        go_enter Tryz.func81, Tryz.ntmps81
        go_wp2_with fail
        rw [← hW0]
        refine HK.out.mono ?_
        rintro e w1 ⟨rfl, hb1⟩
        have hz1 : w.heap.size + 2 ≤ w1.heap.size := by have := hb1.size; have := HZ0.out; omega
        have HB1 : Hid (Below w.heap.size w w1) := bT HB0.out hb1
        have HX1 : Hid _ := Box2.below HX0.out hb1 (by have := HZ0.out; omega)
        have HY1 : Hid _ := Box4.below HY0.out hb1 (by have := HZ0.out; omega)
        clear hb1 hW0
        obtain ⟨c0, c1, _⟩ := Box2.cells HX1.out
        go_wp2_with (first
          | (go_at_call 64; refine (HH.out _).mono ?_; rintro e w2 ⟨rfl, hb2⟩; have HB2 : Hid (Below w.heap.size w w2) := bT HB1.out hb2; have hz2 := hb2.size; have HX2 : Hid _ := Box2.below HX1.out hb2 (by omega); clear c0 c1; obtain ⟨c0, c1, _⟩ := Box2.cells HX2.out; have HY2 : Hid _ := Box4.below HY1.out hb2 (by omega); clear hb2)
          | (go_at_call 28; refine (copyDisk_at _ _ ls lp _ (Strs.below HS.out HB2.out) (Pends.below HP.out HB2.out) h1 h2 R3.out R7.out).mono ?_; rintro e w3 ⟨gs, gp, rfl, x1, x2, x3, x4, x5, x6, x7, hb3⟩; have HB3 : Hid (Below w.heap.size w w3) := bT HB2.out hb3; have hz3 := hb3.size; have HY3 : Hid _ := Box4.below HY2.out hb3 (by omega); have HS3 : Hid _ := x1; have HP3 : Hid _ := x2; clear c0 c1 x1 x2 hb3))
        obtain ⟨WA, hWA⟩ : ∃ WA, WA = w3.alloc (.cells #[.slice (some ⟨gs, 0, none⟩) ls.length ls.length, .slice (some ⟨gp, 0, none⟩) lp.length lp.length] 26) := ⟨_, rfl⟩
        rw [← hWA]
        have hbA : Below w3.heap.size w3 WA := by rw [hWA]; exact bself _
        have HXA : Hid (Box2 WA w3.heap.size (.slice (some ⟨gs, 0, none⟩) ls.length ls.length) (.slice (some ⟨gp, 0, none⟩) lp.length lp.length)) := by rw [hWA]; exact box2_at w3 _ _
        have hzA : WA.heap.size = w3.heap.size + 1 := by rw [hWA]; simp
        have HBA : Hid (Below w.heap.size w WA) := bT HB3.out hbA
        have HYA : Hid _ := Box4.below HY3.out hbA (by omega)
        have HSA : Hid _ := StrsAt.below HS3.out hbA
        have HPA : Hid _ := PendsAt.below HP3.out hbA
        clear hWA hbA HS3 HP3 HB3 HY3
        obtain ⟨c0, c1, cf⟩ := Box2.cells HXA.out
        go_region_law (first
            | (refine step_one (by rfl) _ _ (by rfl) 0 gp lp.length w4.heap.size lp x s (by rfl) (by rfl) (by refine PendsAt.below HP4.out ?_; repeat' (first | exact Below.refl _ _ | apply bD | apply bA)) (.inl rfl) (Nat.zero_le _) (by simp) (by simp) h2 ?_; intro g5 cap5 w5 hp5 hg5 hl5 hq5 _; have HP5 : Hid _ := hp5; have hz5 := hq5.size; simp at hz5 hg5; have hB5 : Below w4.heap.size w4 _ := bD (bA (Below.refl _ _) (.cells #[.int .i64 x, .string s] 78)); have k0 : w5.cell? ⟨w3.heap.size, 0, none⟩ = _ := (hq5.cell (by simp; omega) (by simp; omega)).trans ((hB5.cell (by simp; omega)).trans j0); have k1 : w5.cell? ⟨w3.heap.size, 1, none⟩ = _ := (hq5.cell (by simp; omega) (by simp; omega)).trans ((hB5.cell (by simp; omega)).trans j1); have kf : ∀ o, w5.frozen? ⟨w3.heap.size, o, none⟩ = false := (fun o => (hq5.frozen (by simp; omega) (by simp; omega)).trans ((hB5.frozen (by simp; omega)).trans (jf o))); clear hp5 hB5)
            | (refine step_join (by rfl) _ _ (by rfl) ByteArray.empty s (by rfl) (by rfl) (HJ.out _) ?_; intro w4 hb4; have hz4 := hb4.size; simp at hz4; have hbA4 : Below WA.heap.size WA w4 := (by refine bT ?_ hb4; repeat' (first | exact Below.refl _ _ | apply bD)); have j0 := (hbA4.cell (p := ⟨w3.heap.size, 0, none⟩) (by simp; omega)).trans c0; have j1 := (hbA4.cell (p := ⟨w3.heap.size, 1, none⟩) (by simp; omega)).trans c1; have jf : ∀ o, w4.frozen? ⟨w3.heap.size, o, none⟩ = false := (fun o => (hbA4.frozen (p := ⟨w3.heap.size, o, none⟩) (by simp; omega)).trans (cf o)); have j1' : (w4.alloc (.cells #[.int .i64 x, .string s] 78)).cell? ⟨w3.heap.size, 1, none⟩ = _ := (World.cell?_alloc_lt _ _ _ (by simp; omega)).trans j1; have HP4 : Hid _ := PendsAt.below HPA.out hbA4; have HB4 : Hid _ := hbA4; clear hb4 hbA4))
        all_goals have hB5 : Below w4.heap.size w4 (w4.alloc (.cells #[.int .i64 x, .string s] 78)) := bself _
        all_goals have hY5 : Box4 w5 (w.heap.size + 1) := Only.row hq5 (Sha.row_below (Sha.row_below HYA.out HB4.out (by omega)) hB5 (by omega)) (by omega)
        all_goals have HS5 : Hid (StrsAt w5 gs 0 ls) := StrsAt.only (StrsAt.below (StrsAt.below HSA.out HB4.out) hB5) hq5 (.inr (by omega))
        all_goals have HB5 : Hid (Below w.heap.size w w5) := Only.below hq5 (bT (bT HBA.out HB4.out) hB5) (by simp; omega) (fun k h1 h2 => by omega)
        all_goals obtain ⟨m0, m1, m2, m3, mf⟩ := hY5.cells
        all_goals clear hq5 hB5 hY5 j0 j1 jf j1'
        all_goals go_wp2_with fail
        all_goals
          refine bodyPost_ret (v := outV (.slice (some ⟨gs, 0, none⟩) ls.length ls.length) (.slice (some ⟨g5, 0, none⟩) (lp.length + 1) cap5) ByteArray.empty 0) (by simp [results, Tryz.results81, go_sem, m0, m1, m2, m3]; rfl) rfl ⟨_, _, rfl, ?_, ?_⟩
          · have hlen : lp.length + 1 = (lp ++ [(x, s)]).length := by simp
            rw [hlen]
            refine own_mk ?_ ?_ (by omega) (by simp; omega) (by omega) (by simp; omega) (by omega)
            · refine StrsAt.other (StrsAt.other (StrsAt.other (StrsAt.other (StrsAt.other HS5.out ?_ _) ?_ _) ?_ _) ?_ _) ?_ _ <;> (simp only; omega)
            · refine PendsAt.other (PendsAt.other (PendsAt.other (PendsAt.other (PendsAt.other HP5.out ?_ _) ?_ _) ?_ _) ?_ _) ?_ _ <;> (simp only; omega)
          · refine ((((HB5.out.setCell ?_ _).setCell ?_ _).setCell ?_ _).setCell ?_ _).setCell ?_ _ <;> (simp only; omega)
    · have HH : Hid (∀ W, Calls Tryz.prog 64 #[.agg #[vs, vp], .int .i64 x] W fun e w' => e = .returned (.bool false) ∧ Below W.heap.size W w') := by
        obtain ⟨va, c, rfl, _⟩ := HS.out
        exact fun W => has_no va ls.length c vp x W (by omega)
      rw [writeO_range s2 HR.out hx]
      clear hx
      go_enter Tryz.func81, Tryz.ntmps81
      go_wp2_with fail
      rw [← hW0]
      refine HK.out.mono ?_
      rintro e w1 ⟨rfl, hb1⟩
      have hz1 : w.heap.size + 2 ≤ w1.heap.size := by have := hb1.size; have := HZ0.out; omega
      have HB1 : Hid (Below w.heap.size w w1) := bT HB0.out hb1
      have HX1 : Hid _ := Box2.below HX0.out hb1 (by have := HZ0.out; omega)
      have HY1 : Hid _ := Box4.below HY0.out hb1 (by have := HZ0.out; omega)
      clear hb1 hW0
      obtain ⟨c0, c1, _⟩ := Box2.cells HX1.out
      go_wp2_with (go_at_call 64; refine (HH.out _).mono ?_; rintro e w2 ⟨rfl, hb2⟩; have HB2 : Hid (Below w.heap.size w w2) := bT HB1.out hb2; clear c0 c1; obtain ⟨m0, m1, m2, m3, mf⟩ := (Box4.below HY1.out hb2 (by omega)).cells; clear hb2)
      refine bodyPost_ret (v := outV (.slice none 0 0) (.slice none 0 0) ByteArray.empty 8) (by simp [results, Tryz.results81, go_sem, m0, m1, m2, m3]; rfl) rfl ⟨_, _, rfl, own_zero _ _ _, ?_⟩
      repeat' (first | exact HB2.out | refine Below.setCell ?_ (by simp) _)
end Go.Proofs.YtkigmpeanllimaaGreatDoor.Disk
