/- What the model's DiskWrite answers. -/
import Derived.Test.YtkigmpeanllimaaGreatDoorSpecFlush
import Derived.Test.YtkigmpeanllimaaGreatDoorTextsC
import Derived.Test.YtkigmpeanllimaaGreatDoorTextsE
namespace Go.Proofs.YtkigmpeanllimaaGreatDoor.Disk
open Go.RowKit Go.Proofs.YtkigmpeanllimaaGreatDoor.Mem Go.Proofs.YtkigmpeanllimaaGreatDoor.Harn Go.Proofs.YtkigmpeanllimaaGreatDoor.DiskP

theorem wp_one {w : World} {ops : Array Oper} {rest : List Oper} {o : Oper} {a : Act} {Q : Exit → Act → World → Prop} (hgd : o.guard = none) (s x : Operand)
    (ho : o.op = .call { callee := .builtin .append, args := #[s, x], argTypes := #[24, 24] }) (base g c b : Nat) (lp : List (Int × ByteArray)) (y : Int) (t : ByteArray) (hs : a.eval s = .slice (some ⟨g, 0, none⟩) lp.length c) (hx : a.eval x = .slice (some ⟨b, 0, none⟩) 1 1)
    (h : PendsAt w g 0 lp) (hw : c = lp.length ∨ w.ownsRow base 78 2 (.slice (some ⟨g, 0, none⟩) lp.length c) lp.length (pcells lp)) (hbase : base ≤ w.heap.size) (h0 : w.cell? ⟨b, 0, none⟩ = some (.int .i64 y)) (h1 : w.cell? ⟨b, 1, none⟩ = some (.string t)) (hn : lp.length ≤ 1100000)
    (hK : ∀ g' cap w', PendsAt w' g' 0 (lp ++ [(y, t)]) → (g' = g ∨ g' ≥ w.heap.size) → g' < w'.heap.size → Only (fun k => k = g) w w' → OwnP w' base (.slice (some ⟨g', 0, none⟩) (lp.length + 1) cap) (lp ++ [(y, t)]) → wpList Tryz.prog ops Q rest (a.put o.dst (.slice (some ⟨g', 0, none⟩) (lp.length + 1) cap)) w') : wpList Tryz.prog ops Q (o :: rest) a w := by
  obtain ⟨g', cap, w', hr, a1, a2, a3, a4, a5⟩ := app_any o.type base g c b lp y t w h hw hbase h0 h1 hn
  exact wp_app hgd s x _ ho _ _ _ w' hs hx hr (hK g' cap w' a1 a2 a3 a4 a5)

set_option maxRecDepth 100000 in
set_option maxHeartbeats 2000000 in
theorem specWrite_own (vs vp : Value) (ls : List ByteArray) (lp : List (Int × ByteArray)) (x : Int) (s : ByteArray) (w : World) (hs : Strs w vs ls) (hp : Pends w vp lp) (hsz : s.size ≤ 1048576) (h1 : ls.length ≤ 1100000) (h2 : lp.length ≤ 1100000) (h3 : ∀ t ∈ ls, t.size ≤ maxLen) (h4 : ∀ y ∈ lp, y.2.size ≤ maxLen ∧ -9223372036854775808 ≤ y.1 ∧ y.1 ≤ 9223372036854775807) :
    Calls Tryz.prog 44 #[.agg #[vs, vp], .int .i64 x, .string s] w fun e w' => ToldP w (writeO ls lp x s) e w' := by
  obtain ⟨W0, hW0⟩ : ∃ W0, W0 = (w.alloc (.cells #[vs, vp] 26)).alloc (.cells #[.slice none 0 0, .slice none 0 0, .string { data := #[] }, .int .i64 0] 69) := ⟨_, rfl⟩
  have HB0 : Hid (Below w.heap.size w W0) := by rw [hW0]; exact ((Below.refl _ _).alloc (Nat.le_refl _) _).alloc (by simp) _
  have HX0 : Hid (Box2 W0 w.heap.size vs vp) := by rw [hW0]; exact box2_new w vs vp _
  have HY0 : Hid (Box4 W0 (w.heap.size + 1)) := by rw [hW0]; exact box4_new w _
  have HZ0 : Hid (W0.heap.size = w.heap.size + 2) := by rw [hW0]; simp [Hid]
  have HK : Hid (Calls Tryz.prog 36 #[.agg #[vs, vp]] W0 fun e w' => e = .returned (.bool (rightB ls lp)) ∧ Below W0.heap.size W0 w') := specRight_any vs vp ls lp _ (Strs.below hs HB0.out) (Pends.below hp HB0.out) h1 h2 h3 h4
  have HS : Hid (Strs w vs ls) := hs
  have HP : Hid (Pends w vp lp) := hp
  clear hs hp h3 h4
  have HILL : Hid (∀ c W, Calls Tryz.prog 68 #[.int .i64 c] W fun e w' => e = .returned (outV (.slice none 0 0) (.slice none 0 0) ByteArray.empty c) ∧ Below W.heap.size W w') := fun c W => ill_any c W
  by_cases s1 : 8000 < s.size
  · rw [writeO_size s1]
    go_enter Tryz.func44, Tryz.ntmps44
    go_wp2_with fail
    rw [← hW0]
    refine (HILL.out 2 _).mono ?_
    rintro e w2 ⟨rfl, hb2⟩
    obtain ⟨m0, m1, m2, m3, mf⟩ := (Box4.below HY0.out hb2 (by have := HZ0.out; omega)).cells
    have HB2 : Hid (Below w.heap.size w w2) := bT HB0.out hb2
    clear hb2 hW0
    go_wp2_with fail
    refine bodyPost_ret (v := outV (.slice none 0 0) (.slice none 0 0) ByteArray.empty 2) (by simp [results, Tryz.results44, go_sem, m0, m1, m2, m3]) rfl ⟨_, _, rfl, own_zero _ _ _, ?_, ownP_nil _ _, fun _ => rfl⟩
    repeat' (first | exact HB2.out | refine Below.setCell ?_ (by simp) _)
  have hd8 : decide (8000 < (s.size : Int)) = false := decide_eq_false (by omega)
  cases hr : rightB ls lp with
  | false =>
    rw [hr] at HK
    rw [writeO_form s1 (.inl hr)]
    clear hr
    go_enter Tryz.func44, Tryz.ntmps44
    go_wp2_with fail
    rw [← hW0]
    refine HK.out.mono ?_
    rintro e w1 ⟨rfl, hb1⟩
    have hz1 : w.heap.size + 2 ≤ w1.heap.size := by have := hb1.size; have := HZ0.out; omega
    have HB1 : Hid (Below w.heap.size w w1) := bT HB0.out hb1
    have HY1 : Hid _ := Box4.below HY0.out hb1 (by have := HZ0.out; omega)
    clear hb1 hW0
    go_wp2_with fail
    refine (HILL.out 1 _).mono ?_
    rintro e w2 ⟨rfl, hb2⟩
    obtain ⟨m0, m1, m2, m3, mf⟩ := (Box4.below HY1.out hb2 (by omega)).cells
    have HB2 : Hid (Below w.heap.size w w2) := bT HB1.out hb2
    clear hb2
    go_wp2_with fail
    refine bodyPost_ret (v := outV (.slice none 0 0) (.slice none 0 0) ByteArray.empty 1) (by simp [results, Tryz.results44, go_sem, m0, m1, m2, m3]) rfl ⟨_, _, rfl, own_zero _ _ _, ?_, ownP_nil _ _, fun _ => rfl⟩
    repeat' (first | exact HB2.out | refine Below.setCell ?_ (by simp) _)
  | true =>
    obtain ⟨r1, r2, r3, r4, r5, r6, r7⟩ := right_pends hr
    have HR : Hid (rightB ls lp = true) := hr
    rw [hr] at HK
    clear hr r1 r2 r3 r7
    by_cases s2 : 64 < s.size
    · rw [writeO_form s1 (.inr s2)]
      go_enter Tryz.func44, Tryz.ntmps44
      go_wp2_with fail
      rw [← hW0]
      refine HK.out.mono ?_
      rintro e w1 ⟨rfl, hb1⟩
      have hz1 : w.heap.size + 2 ≤ w1.heap.size := by have := hb1.size; have := HZ0.out; omega
      have HB1 : Hid (Below w.heap.size w w1) := bT HB0.out hb1
      have HY1 : Hid _ := Box4.below HY0.out hb1 (by have := HZ0.out; omega)
      clear hb1 hW0
      go_wp2_with fail
      refine (HILL.out 1 _).mono ?_
      rintro e w2 ⟨rfl, hb2⟩
      obtain ⟨m0, m1, m2, m3, mf⟩ := (Box4.below HY1.out hb2 (by omega)).cells
      have HB2 : Hid (Below w.heap.size w w2) := bT HB1.out hb2
      clear hb2
      go_wp2_with fail
      refine bodyPost_ret (v := outV (.slice none 0 0) (.slice none 0 0) ByteArray.empty 1) (by simp [results, Tryz.results44, go_sem, m0, m1, m2, m3]) rfl ⟨_, _, rfl, own_zero _ _ _, ?_, ownP_nil _ _, fun _ => rfl⟩
      repeat' (first | exact HB2.out | refine Below.setCell ?_ (by simp) _)
    have hd6 : decide (64 < (s.size : Int)) = false := decide_eq_false (by omega)
    obtain ⟨vsa, vsc, rfl, _⟩ := HS.out
    obtain ⟨vpa, vpc, rfl, _⟩ := HP.out
    by_cases hx : 0 ≤ x ∧ x < ls.length
    · have HH : Hid (∀ W, Calls Tryz.prog 65 #[.int .i64 x, .int .i64 0, .int .i64 ((ls.length : Int) - 1)] W fun e w' => e = .returned (.bool true) ∧ W = w') := fun W => (is_yes _ _ _ W (by omega) (by omega)).mono fun _ _ h => ⟨h.1, h.2.symm⟩
      by_cases hf : lp.length = 200
      · rw [writeO_full s2 HR.out hx hf]
        have hfe : decide (200 ≤ (lp.length : Int)) = true := decide_eq_true (by omega)
        have hge : (200 : Int) ≤ (lp.length : Int) := by omega
        have HHF : Hid (lp.length = 200) := hf
        clear hx hf
        go_enter Tryz.func44, Tryz.ntmps44
        go_wp2_with fail
        rw [← hW0]
        refine HK.out.mono ?_
        rintro e w1 ⟨rfl, hb1⟩
        have hz1 : w.heap.size + 2 ≤ w1.heap.size := by have := hb1.size; have := HZ0.out; omega
        have HB1 : Hid (Below w.heap.size w w1) := bT HB0.out hb1
        have HX1 : Hid _ := Box2.below HX0.out hb1 (by have := HZ0.out; omega)
        have HY1 : Hid _ := Box4.below HY0.out hb1 (by have := HZ0.out; omega)
        clear hb1 hW0
        obtain ⟨c0, c1, _⟩ := Box2.cells HX1.out
        go_wp2_with (first
          | (go_at_call 65; refine (HH.out _).mono ?_; rintro e w2 ⟨rfl, rfl⟩)
          | (go_at_call 68; refine (HILL.out 9 _).mono ?_; rintro e w2 ⟨rfl, hb2⟩; have HB2 : Hid (Below w.heap.size w w2) := bT HB1.out hb2; obtain ⟨m0, m1, m2, m3, mf⟩ := (Box4.below HY1.out hb2 (by omega)).cells; clear hb2))
        refine bodyPost_ret (v := outV (.slice none 0 0) (.slice none 0 0) ByteArray.empty 9) (by simp [results, Tryz.results44, go_sem, m0, m1, m2, m3]) rfl ⟨_, _, rfl, own_zero _ _ _, ?_, ownP_nil _ _, fun _ => rfl⟩
        repeat' (first | exact HB2.out | refine Below.setCell ?_ (by simp) _)
      · rw [writeO_ok s2 HR.out hx hf]
        have hfe : decide (200 ≤ (lp.length : Int)) = false := decide_eq_false (by omega)
        have hge : ¬ (200 : Int) ≤ (lp.length : Int) := by omega
        clear hx
        go_enter Tryz.func44, Tryz.ntmps44
        go_wp2_with fail
        rw [← hW0]
        refine HK.out.mono ?_
        rintro e w1 ⟨rfl, hb1⟩
        have hz1 : w.heap.size + 2 ≤ w1.heap.size := by have := hb1.size; have := HZ0.out; omega
        have HB1 : Hid (Below w.heap.size w w1) := bT HB0.out hb1
        have HX1 : Hid _ := Box2.below HX0.out hb1 (by have := HZ0.out; omega)
        have HY1 : Hid _ := Box4.below HY0.out hb1 (by have := HZ0.out; omega)
        clear hb1 hW0
        obtain ⟨c0, c1, _⟩ := Box2.cells HX1.out
        go_wp2_with (first
          | (go_at_call 65; refine (HH.out _).mono ?_; rintro e w2 ⟨rfl, rfl⟩)
          | (go_at_call 42; refine (copy_any _ _ ls lp _ (Strs.below HS.out HB1.out) (Pends.below HP.out HB1.out) h1 h2).mono ?_; rintro e w3 ⟨gs, gp, cs, cp, rfl, x1, x2, x3, x4, x5, x6, x7, hb3, hw3⟩; have HB3 : Hid (Below w.heap.size w w3) := bT HB1.out hb3; have hz3 := hb3.size; have HY3 : Hid _ := Box4.below HY1.out hb3 (by omega); have HS3 : Hid _ := x1; have HP3 : Hid _ := x2; have HW3 : Hid _ := hw3; clear c0 c1 x1 x2 hb3 hw3)
          | (at_builtin; refine wp_one (by rfl) _ _ (by rfl) w1.heap.size gp cp (w3.heap.size + 1) lp x s (by rfl) (by rfl) (PendsAt.below (PendsAt.below HP3.out (bself _)) (bself _)) (HW3.out.imp id fun h => own_below h (((bself _).block gp (by simp; omega)).trans ((bself _).block gp (by omega))) (Nat.le_refl _)) (by simp; omega) (by simp) (by simp) h2 ?_; intro g5 cap5 w5 hp5 hg5 hl5 hq5 hr5; have HR5 : Hid _ := hr5; clear hr5; have HP5 : Hid _ := hp5; have HQ5 : Hid _ := hq5; have hz5 := hq5.size; simp at hz5 hg5; have k0 : w5.cell? ⟨w3.heap.size, 0, none⟩ = some (.slice (some ⟨gs, 0, none⟩) ls.length cs) := (hq5.cell (by simp; omega) (by simp; omega)).trans (by simp); have k1 : w5.cell? ⟨w3.heap.size, 1, none⟩ = some (.slice (some ⟨gp, 0, none⟩) lp.length cp) := (hq5.cell (by simp; omega) (by simp; omega)).trans (by simp); have kf : ∀ o, w5.frozen? ⟨w3.heap.size, o, none⟩ = false := (fun o => (hq5.frozen (by simp; omega) (by simp; omega)).trans (by simp)); have hY5 : Box4 w5 (w.heap.size + 1) := Only.row hq5 (Sha.row_alloc (Sha.row_alloc HY3.out _) _) (by omega); obtain ⟨m0, m1, m2, m3, mf⟩ := hY5.cells; have HS5 : Hid (StrsAt w5 gs 0 ls) := StrsAt.only (StrsAt.below (StrsAt.below HS3.out (bself _)) (bself _)) hq5 (.inr (by omega)); have HB5 : Hid (Below w.heap.size w w5) := Only.below hq5 (bA (bA HB3.out _) _) (by simp; omega) (fun k h1 h2 => by omega); clear hp5 hq5 hY5))
        refine bodyPost_ret (v := outV (.slice (some ⟨gs, 0, none⟩) ls.length cs) (.slice (some ⟨g5, 0, none⟩) (lp.length + 1) cap5) ByteArray.empty 0) (by simp [results, Tryz.results44, go_sem, m0, m1, m2, m3]; rfl) rfl ⟨_, _, rfl, ?_, ?_, ?_, fun h => absurd h (by simp)⟩
        · have hlen : lp.length + 1 = (lp ++ [(x, s)]).length := by simp
          rw [hlen]
          refine own_mk ?_ ?_ (by omega) (by simp; omega) (by omega) (by simp; omega) (by omega)
          · refine StrsAt.other (StrsAt.other (StrsAt.other (StrsAt.other (StrsAt.other HS5.out ?_ _) ?_ _) ?_ _) ?_ _) ?_ _ <;> (simp only; omega)
          · refine PendsAt.other (PendsAt.other (PendsAt.other (PendsAt.other (PendsAt.other HP5.out ?_ _) ?_ _) ?_ _) ?_ _) ?_ _ <;> (simp only; omega)
        · refine ((((HB5.out.setCell ?_ _).setCell ?_ _).setCell ?_ _).setCell ?_ _).setCell ?_ _ <;> (simp only; omega)
        · refine OwnP.same (B := w.heap.size) HR5.out (fun g hg => ?_) (by omega)
          obtain rfl : g5 = g := by simpa [Value.ownBlock] using hg
          rw [Below.heap_setCell _ _ _ _ (by simp only; omega), Below.heap_setCell _ _ _ _ (by simp only; omega), Below.heap_setCell _ _ _ _ (by simp only; omega), Below.heap_setCell _ _ _ _ (by simp only; omega), Below.heap_setCell _ _ _ _ (by simp only; omega)]
    · have HH : Hid (∀ W, Calls Tryz.prog 65 #[.int .i64 x, .int .i64 0, .int .i64 ((ls.length : Int) - 1)] W fun e w' => e = .returned (.bool false) ∧ W = w') := fun W => (is_no _ _ _ W (by omega)).mono fun _ _ h => ⟨h.1, h.2.symm⟩
      rw [writeO_range s2 HR.out hx]
      clear hx
      go_enter Tryz.func44, Tryz.ntmps44
      go_wp2_with fail
      rw [← hW0]
      refine HK.out.mono ?_
      rintro e w1 ⟨rfl, hb1⟩
      have hz1 : w.heap.size + 2 ≤ w1.heap.size := by have := hb1.size; have := HZ0.out; omega
      have HB1 : Hid (Below w.heap.size w w1) := bT HB0.out hb1
      have HX1 : Hid _ := Box2.below HX0.out hb1 (by have := HZ0.out; omega)
      have HY1 : Hid _ := Box4.below HY0.out hb1 (by have := HZ0.out; omega)
      clear hb1 hW0
      obtain ⟨c0, c1, _⟩ := Box2.cells HX1.out
      go_wp2_with (first
        | (go_at_call 65; refine (HH.out _).mono ?_; rintro e w2 ⟨rfl, rfl⟩)
        | (go_at_call 68; refine (HILL.out 8 _).mono ?_; rintro e w2 ⟨rfl, hb2⟩; have HB2 : Hid (Below w.heap.size w w2) := bT HB1.out hb2; obtain ⟨m0, m1, m2, m3, mf⟩ := (Box4.below HY1.out hb2 (by omega)).cells; clear hb2))
      refine bodyPost_ret (v := outV (.slice none 0 0) (.slice none 0 0) ByteArray.empty 8) (by simp [results, Tryz.results44, go_sem, m0, m1, m2, m3]) rfl ⟨_, _, rfl, own_zero _ _ _, ?_, ownP_nil _ _, fun _ => rfl⟩
      repeat' (first | exact HB2.out | refine Below.setCell ?_ (by simp) _)
theorem specWrite_any (vs vp : Value) (ls : List ByteArray) (lp : List (Int × ByteArray)) (x : Int) (s : ByteArray) (w : World) (hs : Strs w vs ls) (hp : Pends w vp lp) (hsz : s.size ≤ 1048576) (h1 : ls.length ≤ 1100000) (h2 : lp.length ≤ 1100000) (h3 : ∀ t ∈ ls, t.size ≤ maxLen) (h4 : ∀ y ∈ lp, y.2.size ≤ maxLen ∧ -9223372036854775808 ≤ y.1 ∧ y.1 ≤ 9223372036854775807) :
    Calls Tryz.prog 44 #[.agg #[vs, vp], .int .i64 x, .string s] w fun e w' => Told w (writeO ls lp x s) e w' := (specWrite_own vs vp ls lp x s w hs hp hsz h1 h2 h3 h4).mono fun _ _ h => h.told
end Go.Proofs.YtkigmpeanllimaaGreatDoor.Disk
