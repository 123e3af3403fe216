/- Laws that the proof rests on, put together: What the program's kept answers. A drawn list of numbers: what the model's l03Keep answers. The program's steps on a disk. The program's AreaFormat. What the program's DiskCrash answers. The program's steps of a text, and the first of the steps. -/
import Derived.Test.YtkigmpeanllimaaGreatDoorSpecWrite
import Derived.Test.YtkigmpeanllimaaGreatDoorTextsC
import Derived.Test.YtkigmpeanllimaaGreatDoorTextsE
import Derived.Test.YtkigmpeanllimaaGreatDoorImplWrite
import Derived.Test.YtkigmpeanllimaaGreatDoorImplDisk
/- What the program's kept answers. -/
namespace Go.Proofs.YtkigmpeanllimaaGreatDoor.Disk
open Go.RowKit Go.Proofs.YtkigmpeanllimaaGreatDoor.Mem Go.Proofs.YtkigmpeanllimaaGreatDoor.Harn Go.Proofs.YtkigmpeanllimaaGreatDoor.DiskP

theorem wp_own {w : World} {ops : Array Oper} {rest : List Oper} {o : Oper} {a : Act} {Q : Exit → Act → World → Prop} (hgd : o.guard = none) (s x : Operand)
    (ho : o.op = .call { callee := .builtin .append, args := #[s, x], argTypes := #[24, 24] }) (base b : Nat) (v : Value) (lp : List (Int × ByteArray)) (y : Int) (t : ByteArray) (hs : a.eval s = v) (hx : a.eval x = .slice (some ⟨b, 0, none⟩) 1 1)
    (h : OwnP w base v lp) (hbase : base ≤ w.heap.size) (h0 : w.cell? ⟨b, 0, none⟩ = some (.int .i64 y)) (h1 : w.cell? ⟨b, 1, none⟩ = some (.string t)) (hn : lp.length ≤ 1100000)
    (hK : ∀ g cap w', OwnP w' base (.slice (some ⟨g, 0, none⟩) (lp.length + 1) cap) (lp ++ [(y, t)]) → Below base w w' → w.heap.size ≤ w'.heap.size → wpList Tryz.prog ops Q rest (a.put o.dst (.slice (some ⟨g, 0, none⟩) (lp.length + 1) cap)) w') : wpList Tryz.prog ops Q (o :: rest) a w := by
  obtain ⟨g', cap, w', hr, a1, a2, a3, a4⟩ := app_own o.type base b v lp y t w h hbase h0 h1 hn
  refine wp_app hgd s x _ ho _ _ _ w' hs hx hr (hK g' cap w' ?_ ?_ a4.size)
  · unfold OwnP
    rw [List.length_append]
    exact a1
  · exact (Below.refl base w).grown a4 hbase (fun j hj => (World.ownsRow.lt h j hj).1)

set_option maxRecDepth 100000 in
set_option maxHeartbeats 1000000 in
theorem kept_any (vp vk : Value) (lp : List (Int × ByteArray)) (kp : List Int) (w : World) (hp : Pends w vp lp) (hk : Ints w vk kp) (h1 : lp.length ≤ 200) :
    Calls Tryz.prog 51 #[vp, vk] w fun e w' => ∃ v, e = .returned v ∧ Pends w' v (keptD lp kp) ∧ Below w.heap.size w w' := by
  obtain ⟨a1, cap1, rfl, hc1⟩ := hp
  obtain ⟨a2, cap2, rfl, hc2⟩ := hk
  have HC1 : Hid (∀ j (h : j < lp.length), ∃ b o, a1 = some ⟨b, o, none⟩ ∧ w.cell? ⟨b, o + j * 2, none⟩ = some (.int .i64 lp[j].1) ∧ w.cell? ⟨b, o + j * 2 + 1, none⟩ = some (.string lp[j].2)) := hc1
  have HC2 : Hid (∀ j (h : j < kp.length), ∃ b o, a2 = some ⟨b, o, none⟩ ∧ w.cell? ⟨b, o + j, none⟩ = some (.int .i64 kp[j])) := hc2
  clear hc1 hc2
  go_enter Tryz.func51, Tryz.ntmps51
  go_wp2
  go_loopw [5, 10] (fun v i wr => ∃ k : Nat, k ≤ lp.length ∧ i = .int .i64 k ∧ OwnP wr w.heap.size v (keptTo lp kp k) ∧ Below w.heap.size w wr) (fun _ i _ => lp.length - (intOf i).toNat)
  case atStart => exact ⟨0, by omega, rfl, World.ownsRow_nil _ _ _ _, Below.refl _ _⟩
  case round =>
    obtain ⟨k, hk, rfl, hown, hbel⟩ := hrel
    by_cases hlt : k < lp.length
    · obtain ⟨b, o, rfl, d1, d2⟩ := HC1.out k hlt
      have c1 : wr.cell? ⟨b, o + k * 2, none⟩ = _ := (hbel.cell (World.block_lt_of_cell? w _ d1)).trans d1
      have c2 : wr.cell? ⟨b, o + k * 2 + 1, none⟩ = _ := (hbel.cell (World.block_lt_of_cell? w _ d2)).trans d2
      have hz := hbel.size
      have HBA : Hid (∀ o, Below w.heap.size w (wr.alloc o)) := fun o => bA hbel o
      have HLN := keptTo_len lp kp k
      by_cases hin : k < kp.length
      · obtain ⟨b2, o2, rfl, d3⟩ := HC2.out k hin
        have HY : Hid (0 < kp[k] → keptTo lp kp (k + 1) = keptTo lp kp k ++ [(lp[k].1, lp[k].2)]) := fun h => keptTo_yes lp kp k hlt hin h
        have HN : Hid (¬ 0 < kp[k] → keptTo lp kp (k + 1) = keptTo lp kp k) := fun h => keptTo_low lp kp k hin h
        have p1 : (k : Int) < (lp.length : Int) := by omega
        have p2 : (k : Int) < (kp.length : Int) := by omega
        generalize lp[k].1 = x at *
        generalize lp[k].2 = t at *
        have c3 : (wr.alloc (.cells #[.int .i64 x, .string t] 78)).cell? ⟨b2, o2 + k, none⟩ = some (.int .i64 kp[k]) := ((HBA.out _).cell (World.block_lt_of_cell? w _ d3)).trans d3
        generalize kp[k] = q at *
        have HOWN : Hid (∀ o, OwnP (wr.alloc o) w.heap.size u5 (keptTo lp kp k)) := fun o => hown.alloc o
        generalize keptTo lp kp k = kl at *
        clear d1 d2 d3 hown
        by_cases hq : 0 < q
        · have HE : Hid _ := HY.out hq
          go_wp2_with (at_builtin; refine wp_own (by rfl) _ _ (by rfl) w.heap.size (wr.heap.size + 1) u5 kl x t (by rfl) (by rfl) (World.ownsRow.alloc (HOWN.out _) _) (by simp; omega) (by simp) (by simp) (by omega) ?_; intro g cap w1 ho1 hb1 hz1; have HO1 : Hid _ := ho1; have HB1 : Hid _ := hb1; clear ho1 hb1)
          go_roundw
          case rel => exact ⟨k + 1, by omega, by go_num, by rw [HE.out]; exact HO1.out, (bA (HBA.out _) _).trans HB1.out⟩
          case measure => simp [intOf]; omega
        · have HE : Hid _ := HN.out hq
          have hd : decide (0 < q) = false := decide_eq_false hq
          go_wp2
          go_roundw
          case rel => exact ⟨k + 1, by omega, by go_num, by rw [HE.out]; exact HOWN.out _, HBA.out _⟩
          case measure => simp [intOf]; omega
      · have HN : Hid (keptTo lp kp (k + 1) = keptTo lp kp k) := keptTo_out lp kp k hin
        have p1 : (k : Int) < (lp.length : Int) := by omega
        have p2 : ¬ (k : Int) < (kp.length : Int) := by omega
        have hd : decide ((k : Int) < (kp.length : Int)) = false := decide_eq_false p2
        generalize lp[k].1 = x at *
        generalize lp[k].2 = t at *
        have HOWN : Hid (∀ o, OwnP (wr.alloc o) w.heap.size u5 (keptTo lp kp k)) := fun o => hown.alloc o
        generalize keptTo lp kp k = kl at *
        clear d1 d2 hown
        go_wp2
        go_roundw
        case rel => exact ⟨k + 1, by omega, by go_num, by rw [HN.out]; exact HOWN.out _, HBA.out _⟩
        case measure => simp [intOf]; omega
    · have e : k = lp.length := by omega
      subst e
      have HP : Hid (Pends wr u5 (keptD lp kp)) := OwnP.pends hown
      have HB : Hid _ := hbel
      clear hown hbel
      go_wp2
      go_ret
      exact ⟨_, rfl, HP.out, HB.out⟩
end Go.Proofs.YtkigmpeanllimaaGreatDoor.Disk

/- A drawn list of numbers: what the model's l03Keep answers. -/
namespace Go.Proofs.YtkigmpeanllimaaGreatDoor.Disk
open Go.RowKit Go.Proofs.YtkigmpeanllimaaGreatDoor.Mem Go.Proofs.YtkigmpeanllimaaGreatDoor.Harn Go.Proofs.YtkigmpeanllimaaGreatDoor.Draw

/-- A list of numbers that owns its row. -/
def OwnI (W : World) (base : Nat) (v : Value) (l : List Int) : Prop := W.ownsRow base 2 1 v l.length (l.map (Value.int .i64))
theorem OwnI.ints {W : World} {base : Nat} {v : Value} {l : List Int} (h : OwnI W base v l) : Ints W v l := by
  have h0 := h
  rcases h.2 with ⟨rfl, hn⟩ | ⟨g, cap, cur, rfl, _⟩
  · exact ⟨none, 0, by rw [hn], fun j hj => by omega⟩
  · refine ⟨_, cap, rfl, fun j hj => ⟨g, 0, rfl, ?_⟩⟩
    rw [Nat.zero_add, h0.cellAt j (by omega)]
    simp [hj]
theorem OwnI.lt {W : World} {base : Nat} {v : Value} {l : List Int} (h : OwnI W base v l) : ∀ g, v.ownBlock = some g → base ≤ g ∧ g < W.heap.size := World.ownsRow.lt h
theorem OwnI.same {W W' : World} {base : Nat} {v : Value} {l : List Int} (h : OwnI W base v l) (hb : ∀ g, v.ownBlock = some g → W'.heap[g]? = W.heap[g]?) : OwnI W' base v l := by
  obtain ⟨h1, h2⟩ := h
  refine ⟨h1, ?_⟩
  rcases h2 with ⟨rfl, h2⟩ | ⟨g, cap, cur, rfl, e2, e3, e4⟩
  · exact .inl ⟨rfl, h2⟩
  · exact .inr ⟨g, cap, cur, rfl, e2, (hb g rfl).trans e3, e4⟩
theorem OwnI.only {p : Nat → Prop} {W W' : World} {base : Nat} {v : Value} {l : List Int} (h : OwnI W base v l) (hg : Only p W W') (hn : ∀ k, base ≤ k → ¬ p k) : OwnI W' base v l := h.same (fun g hb => hg.block g (h.lt g hb).2 (hn g (h.lt g hb).1))

theorem wp_int {w : World} {ops : Array Oper} {rest : List Oper} {o : Oper} {a : Act} {Q : Exit → Act → World → Prop} (hgd : o.guard = none) (s x : Operand)
    (ho : o.op = .call { callee := .builtin .append, args := #[s, x], argTypes := #[37, 37] }) (base b : Nat) (v : Value) (l : List Int) (y : Int) (hs : a.eval s = v) (hx : a.eval x = .slice (some ⟨b, 0, none⟩) 1 1)
    (h : OwnI w base v l) (hbase : base ≤ w.heap.size) (h0 : w.cell? ⟨b, 0, none⟩ = some (.int .i64 y)) (hn : l.length ≤ 1100000)
    (hK : ∀ g cap w', OwnI w' base (.slice (some ⟨g, 0, none⟩) (l.length + 1) cap) (l ++ [y]) → Only (fun k => base ≤ k) w w' → wpList Tryz.prog ops Q rest (a.put o.dst (.slice (some ⟨g, 0, none⟩) (l.length + 1) cap)) w') : wpList Tryz.prog ops Q (o :: rest) a w := by
  obtain ⟨i, hi0, hz0, hz1, hz2⟩ := info_parts infoI64
  obtain ⟨g', cap, w', hr, hown, hgr, _, _⟩ := run_append_lies (P := Tryz.prog) w 37 o.type base 2 i (.int .i64 0) 1 8 underI64s hi0 hz0 hz1 hz2 rfl (by omega) v l.length (l.map (Value.int .i64)) h ⟨b, 0, none⟩ 1 1 [.int .i64 y] rfl (fun j u hu => by
    rw [add_zero_addr]
    rcases j with _ | j
    · simp at hu; rw [h0, hu]
    · simp at hu) (by simp [Value.oneCell']) (by omega) (by unfold maxLen; omega) (by omega) hbase w.heap.size rfl
  refine wp_app hgd s x _ ho _ _ _ w' hs hx hr (hK g' cap w' ?_ ⟨hgr.os, hgr.tape, hgr.output, hgr.size, fun k hk hn => hgr.block k hk (fun e => hn (h.lt k e.symm).1)⟩)
  unfold OwnI
  rw [List.length_append, List.map_append]
  exact hown

set_option maxRecDepth 100000 in
set_option maxHeartbeats 2000000 in
theorem l03Keep_any (W : World) (g : Nat) (a : Option Addr) (len cap : Nat) (zs : List Int) (h : Draw.Src W g a len cap zs) :
    Calls Tryz.prog 48 #[.pointer (some ⟨g, 0, none⟩)] W fun e W' => ∃ v l, e = .returned v ∧ OwnI W' W.heap.size v l ∧ l.length ≤ 14 ∧ Draw.Src W' g a len cap zs ∧ Only (fun k => k = g) W W' := by
  have HN : Hid (∀ (m : Int) W, Draw.Src W g a len cap zs → m ≤ 100 → Calls Tryz.prog 23 #[.pointer (some ⟨g, 0, none⟩), .int .i64 m] W fun e W' => ∃ v : Int, e = .returned (.int .i64 v) ∧ Num m v ∧ Draw.Src W' g a len cap zs ∧ W.grownBy W' (some g)) := fun m W h hm => n_any W g a len cap zs m h (by omega)
  have hgl := src_lt h
  have hb0 : Below W.heap.size W (W.alloc (.cells #[] 2)) := (Below.refl _ _).alloc (Nat.le_refl _) _
  have HS : Hid _ := src_below h hb0 hgl
  have HO0 : Hid (OwnI (W.alloc (.cells #[] 2)) W.heap.size (.slice (some ⟨W.heap.size, 0, none⟩) 0 0) []) := World.ownsRow_lit W #[] 0 (Nat.le_refl _) (by unfold maxLen; omega) (by simp)
  have HG0 : Hid (Only (fun k => k = g) W (W.alloc (.cells #[] 2))) := Only.of_below _ hb0
  clear h hb0
  go_enter Tryz.func48, Tryz.ntmps48
  go_wp2_with fail
  refine (HN.out 14 _ HS.out (by omega)).mono ?_
  rintro e w1 ⟨v, rfl, hv, hs1, hg1⟩
  obtain ⟨k0, rfl⟩ := Int.eq_ofNat_of_zero_le hv.1
  have hk14 : (k0 : Int) < 14 := hv.2.1 (by omega)
  have h1 : Only (fun k => k = g) _ w1 := Only.of_grown hg1 rfl
  have hz1 := h1.size
  simp at hz1
  have HS1 : Hid _ := hs1
  have HG1 : Hid _ := HG0.out.trans h1
  have HO1 : Hid _ := OwnI.only HO0.out h1 (fun k h1 h2 => by omega)
  clear hs1 hg1 hv h1
  go_wp2_with fail
  go_loopw [3, 4] (fun v i wr => ∃ (k : Nat) (l : List Int), i = .int .i64 k ∧ k + l.length ≤ 14 ∧ OwnI wr W.heap.size v l ∧ Draw.Src wr g a len cap zs ∧ Only (fun k => k = g) W wr) (fun _ i _ => (intOf i).toNat)
  case atStart => exact ⟨k0, [], rfl, by simp; omega, HO1.out, HS1.out, HG1.out⟩
  case round =>
    clear HS1 HG1 HO1 HG0 HO0 HS
    obtain ⟨k, l, rfl, hkl, ho, hs, hg⟩ := hrel
    have HOK : Hid _ := ho
    have HSK : Hid _ := hs
    have HGK : Hid _ := hg
    have hWr := hg.size
    clear ho hs hg
    by_cases hk0 : 0 < k
    · go_wp2_with (first
        | (go_at_call 23; refine (HN.out 2 _ HSK.out (by omega)).mono ?_; rintro e w2 ⟨v, rfl, hv2, hs2, hg2⟩; have h2 : Only (fun k => k = g) wr w2 := Only.of_grown hg2 rfl; have hz2 := h2.size; have HS2 : Hid _ := hs2; have HG2 : Hid _ := HGK.out.trans h2; have HO2 : Hid _ := OwnI.only HOK.out h2 (fun k h1 h2 => by omega); clear hs2 hg2 h2 hv2)
        | (at_builtin; refine wp_int (by rfl) _ _ (by rfl) W.heap.size w2.heap.size u3 l v (by rfl) (by rfl) (OwnI.only HO2.out (Only.of_below (fun _ => False) ((Below.refl _ _).alloc (Nat.le_refl _) _)) (fun _ _ h => h)) (by simp; omega) (by simp) (by omega) ?_; intro gp cp w3 ho3 hq3; have hz3 := hq3.size; simp at hz3; have HO3 : Hid _ := ho3; have HQ3 : Hid _ := Only.trans (Only.of_below (fun k => W.heap.size ≤ k) ((Below.refl _ _).alloc (Nat.le_refl _) _)) hq3; clear ho3 hq3))
      go_roundw
      case rel => exact ⟨k - 1, l ++ [v], by congr 1; omega, by simp; omega, HO3.out, src_only HS2.out HQ3.out (fun k h1 h2 => by omega), only_W HG2.out HQ3.out (fun k h1 h2 h3 => by omega)⟩
      case measure => simp [intOf]; omega
    · obtain rfl : k = 0 := by omega
      go_wp2_with fail
      go_ret
      exact ⟨_, l, rfl, HOK.out, by omega, HSK.out, HGK.out⟩
end Go.Proofs.YtkigmpeanllimaaGreatDoor.Disk

/- The program's steps on a disk. -/
namespace Go.Proofs.YtkigmpeanllimaaGreatDoor.Disk
open Go.RowKit Go.Proofs.YtkigmpeanllimaaGreatDoor.Mem Go.Proofs.YtkigmpeanllimaaGreatDoor.Harn Go.Proofs.YtkigmpeanllimaaGreatDoor.DiskP

theorem told_set4 {w W w1 : World} {o : Out} {us up : Value} {g : Nat} (ho : Own w1 W.heap.size w1.heap.size us up o.ls o.lp) (hB : Below w.heap.size w W) (hb : Below W.heap.size W w1) (hg : w.heap.size ≤ g) (hgW : g < W.heap.size) : Told w o (.returned (outV us up o.t o.c)) ((((w1.setCell ⟨g, 0, none⟩ us).setCell ⟨g, 1, none⟩ up).setCell ⟨g, 2, none⟩ (.string o.t)).setCell ⟨g, 3, none⟩ (.int .i64 o.c)) :=
  ⟨us, up, rfl, (((ho.setCell (a := ⟨g, 0, none⟩) (.inl hgW) us).setCell (a := ⟨g, 1, none⟩) (.inl hgW) up).setCell (a := ⟨g, 2, none⟩) (.inl hgW) (.string o.t)).setCell (a := ⟨g, 3, none⟩) (.inl hgW) (.int .i64 o.c) |>.wide hB.size (by simp), ((((bT hB hb).setCell (p := ⟨g, 0, none⟩) hg us).setCell (p := ⟨g, 1, none⟩) hg up).setCell (p := ⟨g, 2, none⟩) hg (.string o.t)).setCell (p := ⟨g, 3, none⟩) hg (.int .i64 o.c)⟩

set_option maxRecDepth 100000 in
set_option maxHeartbeats 2000000 in
theorem implOn_any (y : Step) (vs vp : Value) (ls : List ByteArray) (lp : List (Int × ByteArray)) (w : World) (hs : Strs w vs ls) (hp : Pends w vp lp) (hf : Fits ls lp) (hy : y.2.2.size ≤ 1048576) :
    Calls Tryz.prog 63 #[.agg #[.bool y.1, .int .i64 y.2.1, .string y.2.2], .agg #[vs, vp]] w fun e w' => Told w (stepO ls lp y) e w' := by
  obtain ⟨f, x, s⟩ := y
  simp only at hy
  obtain ⟨W0, hW0⟩ : ∃ W0, W0 = ((w.alloc (.cells #[.bool f, .int .i64 x, .string s] 97)).alloc (.cells #[vs, vp] 26)).alloc (.cells #[.slice none 0 0, .slice none 0 0, .string { data := #[] }, .int .i64 0] 69) := ⟨_, rfl⟩
  have HB0 : Hid (Below w.heap.size w W0) := by rw [hW0]; exact bA (bA (bself _) _) _
  have HZ : Hid (W0.heap.size = w.heap.size + 3) := by rw [hW0]; simp [Hid]
  have HR : Hid (HasRow W0 (w.heap.size + 2) [.slice none 0 0, .slice none 0 0, .string { data := #[] }, .int .i64 0] 69) := by rw [hW0]; exact Sha.row_new_at ((w.alloc _).alloc _) [.slice none 0 0, .slice none 0 0, .string { data := #[] }, .int .i64 0] 69 _ (by simp)
  have HS : Hid (Strs W0 vs ls) := hs.below HB0.out
  have HP : Hid (Pends W0 vp lp) := hp.below HB0.out
  have HF : Hid (Fits ls lp) := hf
  clear hs hp hf
  cases f
  · have K : Hid (Calls Tryz.prog 81 #[.agg #[vs, vp], .int .i64 x, .string s] W0 fun e w' => Told W0 (stepO ls lp (false, x, s)) e w') := implWrite_any vs vp ls lp x s W0 HS.out HP.out hy HF.out.n HF.out.m HF.out.t HF.out.y
    generalize stepO ls lp (false, x, s) = o at *
    go_enter Tryz.func63, Tryz.ntmps63
    go_wp2_with (go_at_call 81; rw [← hW0]; clear hW0; refine K.out.mono ?_; rintro e w1 ⟨us, up, rfl, ho, hb⟩; obtain ⟨va, ca, vb, cb, rfl, rfl⟩ := ho.shape; have HO : Hid _ := ho; have HB : Hid _ := hb; have HR1 : Hid _ := Sha.row_below HR.out hb (by have := HZ.out; omega); clear ho hb; obtain ⟨x0, x1, x2, x3⟩ := BoxO.cells HR1.out; have xf := Mem.frozen_of_row HR1.out)
    exact bodyPost_ret (v := outV (.slice va o.ls.length ca) (.slice vb o.lp.length cb) o.t o.c) (by simp [results, Tryz.results63, go_sem, x0, x1, x2, x3]) rfl (told_set4 HO.out HB0.out HB.out (by omega) (by have := HZ.out; omega))
  · have K : Hid (Calls Tryz.prog 80 #[.agg #[vs, vp]] W0 fun e w' => Told W0 (stepO ls lp (true, x, s)) e w') := implFlush_any vs vp ls lp W0 HS.out HP.out HF.out.n HF.out.m HF.out.t HF.out.y
    generalize stepO ls lp (true, x, s) = o at *
    go_enter Tryz.func63, Tryz.ntmps63
    go_wp2_with (go_at_call 80; rw [← hW0]; clear hW0; refine K.out.mono ?_; rintro e w1 ⟨us, up, rfl, ho, hb⟩; obtain ⟨va, ca, vb, cb, rfl, rfl⟩ := ho.shape; have HO : Hid _ := ho; have HB : Hid _ := hb; have HR1 : Hid _ := Sha.row_below HR.out hb (by have := HZ.out; omega); clear ho hb; obtain ⟨x0, x1, x2, x3⟩ := BoxO.cells HR1.out; have xf := Mem.frozen_of_row HR1.out)
    exact bodyPost_ret (v := outV (.slice va o.ls.length ca) (.slice vb o.lp.length cb) o.t o.c) (by simp [results, Tryz.results63, go_sem, x0, x1, x2, x3]) rfl (told_set4 HO.out HB0.out HB.out (by omega) (by have := HZ.out; omega))

theorem steps2 {W : World} {b : Nat} {h : ByteArray} (hr : HasRow W b [.bool false, .int .i64 0, .string h, .bool true, .int .i64 0, .string ByteArray.empty] 97) : Steps W (.slice (some ⟨b, 0, none⟩) 2 2) [(false, 0, h), (true, 0, ByteArray.empty)] := by
  refine ⟨some ⟨b, 0, none⟩, 2, rfl, fun j hj => ⟨b, 0, rfl, ?_⟩⟩
  match j, hj with
  | 0, _ => exact ⟨Mem.cell_of_row hr 0, Mem.cell_of_row hr 1, Mem.cell_of_row hr 2⟩
  | 1, _ => exact ⟨Mem.cell_of_row hr 3, Mem.cell_of_row hr 4, Mem.cell_of_row hr 5⟩

set_option maxRecDepth 100000 in
set_option maxHeartbeats 2000000 in
theorem headSteps_any (g s n : Int) (w : World) (hg1 : -9223372036854775808 ≤ g) (hg2 : g ≤ 9223372036854775807) (hs1 : -9223372036854775808 ≤ s) (hs2 : s ≤ 9223372036854775807) (hn1 : -9223372036854775808 ≤ n) (hn2 : n ≤ 9223372036854775807) :
    Calls Tryz.prog 32 #[.agg #[.int .i64 g, .int .i64 s, .int .i64 n]] w fun e w' => ∃ v, e = .returned v ∧ Steps w' v [(false, 0, headB g s n), (true, 0, ByteArray.empty)] ∧ Below w.heap.size w w' := by
  have K : Hid (∀ W, Calls Tryz.prog 62 #[.agg #[.int .i64 g, .int .i64 s, .int .i64 n]] W fun e w' => e = .returned (.string (headB g s n)) ∧ Below W.heap.size W w') := fun W => implSealed_any g s n W hg1 hg2 hs1 hs2 hn1 hn2
  have HB0 : Hid (Below w.heap.size w (w.alloc (.cells #[.int .i64 g, .int .i64 s, .int .i64 n] 49))) := bself _
  generalize headB g s n = hd at *
  go_enter Tryz.func32, Tryz.ntmps32
  go_wp2_with (go_at_call 62; refine (K.out _).mono ?_; rintro e w1 ⟨rfl, hb⟩; have HB : Hid _ := hb; clear hb)
  go_ret
  exact ⟨_, rfl, steps2 (Sha.row_new w1 [.bool false, .int .i64 0, .string hd, .bool true, .int .i64 0, .string ByteArray.empty] 97), bA (bT HB0.out HB.out) _⟩

/-- What the round of steps keeps: the disk as it is now, in a box of its own; the box of the answer. -/
structure TakeSt (w W : World) (gn gr : Nat) (va : Option Addr) (ca : Nat) (vb : Option Addr) (cb : Nat) (ls : List ByteArray) (lp : List (Int × ByteArray)) (lo hi : Nat) : Prop where
  b : Below w.heap.size w W
  n : Box2 W gn (.slice va ls.length ca) (.slice vb lp.length cb)
  r : BoxA W gr (.slice none 0 0) (.slice none 0 0) ByteArray.empty 0 0
  o : Own W lo hi (.slice va ls.length ca) (.slice vb lp.length cb) ls lp
  h1 : w.heap.size ≤ lo
  h2 : hi ≤ W.heap.size
  h3 : gn < lo ∨ hi ≤ gn
  h4 : gr < lo ∨ hi ≤ gr
  h5 : gn < W.heap.size
  h6 : gr < W.heap.size
  h7 : w.heap.size ≤ gn
  h8 : w.heap.size ≤ gr
  h9 : gn ≠ gr

/-- The first k steps were taken. -/
def TakeRel (w : World) (gn gr : Nat) (ls : List ByteArray) (lp : List (Int × ByteArray)) (σ : List Step) (k : Nat) (W : World) : Prop := ∃ va ca vb cb lk qk lo hi, TakeSt w W gn gr va ca vb cb lk qk lo hi ∧ Fits lk qk ∧ runO ls lp σ = runO lk qk (σ.drop k)
theorem takeSt_next {w W w2 : World} {gn gr : Nat} {va va2 : Option Addr} {ca ca2 : Nat} {vb vb2 : Option Addr} {cb cb2 : Nat} {ls l2 : List ByteArray} {lp p2 : List (Int × ByteArray)} {lo hi W9 : Nat} {x : Obj} (h : TakeSt w W gn gr va ca vb cb ls lp lo hi) (hb : Below W.heap.size W w2) (ho : Own w2 W9 w2.heap.size (.slice va2 l2.length ca2) (.slice vb2 p2.length cb2) l2 p2) (h9 : W.heap.size ≤ W9) :
    TakeSt w (((w2.setCell ⟨gn, 0, none⟩ (.slice va2 l2.length ca2)).setCell ⟨gn, 1, none⟩ (.slice vb2 p2.length cb2)).alloc x) gn gr va2 ca2 vb2 cb2 l2 p2 W9 w2.heap.size := by
  have hz := hb.size
  have h5 := h.h5
  have h6 := h.h6
  have h7 := h.h7
  have hq := h.b.size
  refine ⟨?_, Sha.row_alloc (box2_set (h.n.below hb h.h5)) _, ?_, ?_, by omega, by simp, by omega, by omega, by simp; omega, by simp; omega, h.h7, h.h8, h.h9⟩
  · exact bA (((bT h.b hb).setCell (p := ⟨gn, 0, none⟩) h7 _).setCell (p := ⟨gn, 1, none⟩) h7 _) _
  · exact BoxA.alloc (BoxA.only (BoxA.below h.r hb h6) onlyA_set2 (fun e => h.h9 e.symm)) _
  · exact (ho.only onlyA_set2 (fun k h1 _ e => by omega)).below (bself x)
theorem told_set5 {w w2 : World} {o : AOut} {us up : Value} {g lo hi : Nat} (ho : Own w2 lo hi us up o.ls o.lp) (hb : Below w.heap.size w w2) (h1 : w.heap.size ≤ lo) (h2 : hi ≤ w2.heap.size) (hg : g < lo ∨ hi ≤ g) (h8 : w.heap.size ≤ g) : ToldA w o (.returned (outA us up o.t o.g o.c)) (((((w2.setCell ⟨g, 0, none⟩ us).setCell ⟨g, 1, none⟩ up).setCell ⟨g, 2, none⟩ (.string o.t)).setCell ⟨g, 3, none⟩ (.int .i64 o.g)).setCell ⟨g, 4, none⟩ (.int .i64 o.c)) :=
  ⟨us, up, rfl, (ho.only onlyA_set5 (fun k h3 h4 e => by omega)).wide h1 (by simp; omega), onlyA_set5.below hb hb.size (fun k h3 e => by omega)⟩

theorem ToldA.alloc {w w2 : World} {o : AOut} {e : Ending} (h : ToldA w o e w2) (x : Obj) : ToldA w o e (w2.alloc x) := by
  obtain ⟨us, up, h1, h2, h3⟩ := h
  exact ⟨us, up, h1, (h2.below (bself x)).wide (Nat.le_refl _) (by simp), bA h3 x⟩

theorem Step.at {W : World} {a : Option Addr} {cap : Nat} {l : List Step} (h : Steps W (.slice a l.length cap) l) (j : Nat) (hj : j < l.length) : ∃ b o, a = some ⟨b, o, none⟩ ∧ W.cell? ⟨b, o + j * 3, none⟩ = some (.bool l[j].1) ∧ W.cell? ⟨b, o + j * 3 + 1, none⟩ = some (.int .i64 l[j].2.1) ∧ W.cell? ⟨b, o + j * 3 + 2, none⟩ = some (.string l[j].2.2) := by
  obtain ⟨a', c', hv, hc⟩ := h
  cases hv
  exact hc j hj

set_option maxRecDepth 100000 in
set_option maxHeartbeats 4000000 in
theorem takeSteps_any (vs vp v : Value) (ls : List ByteArray) (lp : List (Int × ByteArray)) (σ : List Step) (w : World) (hs : Strs w vs ls) (hp : Pends w vp lp) (hf : Fits ls lp) (hv : Steps w v σ) (hl : σ.length ≤ 100000) (hσ : ∀ y ∈ σ, y.2.2.size ≤ 1048576) :
    Calls Tryz.prog 33 #[.agg #[vs, vp], v] w fun e w' => ToldA w (runO ls lp σ) e w' := by
  obtain ⟨W0, hW0⟩ : ∃ W0, W0 = (w.alloc (.cells #[vs, vp] 26)).alloc (.cells #[.slice none 0 0, .slice none 0 0, .string { data := #[] }, .int .i64 0, .int .i64 0] 31) := ⟨_, rfl⟩
  have HB0 : Hid (Below w.heap.size w W0) := by rw [hW0]; exact bA (bself _) _
  have HZ : Hid (W0.heap.size = w.heap.size + 2) := by rw [hW0]; simp [Hid]
  have HR : Hid (BoxA W0 (w.heap.size + 1) (.slice none 0 0) (.slice none 0 0) ByteArray.empty 0 0) := by rw [hW0]; exact Sha.row_new_at (w.alloc _) [.slice none 0 0, .slice none 0 0, .string ByteArray.empty, .int .i64 0, .int .i64 0] 31 _ (by simp)
  have HS : Hid (Strs W0 vs ls) := hs.below HB0.out
  have HP : Hid (Pends W0 vp lp) := hp.below HB0.out
  have HF : Hid (Fits ls lp) := hf
  obtain ⟨a, cap, rfl, hvv⟩ := id hv
  clear hvv
  have HV : Hid (Steps w (.slice a σ.length cap) σ) := hv
  have HSZ : Hid (∀ y ∈ σ, y.2.2.size ≤ 1048576) := hσ
  clear hs hp hf hv hσ
  go_enter Tryz.func33, Tryz.ntmps33
  go_wp2_with fail
  rw [← hW0]
  clear hW0
  refine (copyDisk_any vs vp ls lp W0 HS.out HP.out HF.out.n HF.out.m HF.out.t2 HF.out.y2).mono ?_
  rintro e w1 ⟨us, up, rfl, ho, hb⟩
  obtain ⟨va, ca, vb, cb, rfl, rfl⟩ := ho.shape
  have hz0 := HZ.out
  have hz1 := hb.size
  have HT : Hid (TakeSt w (w1.alloc (.cells #[.slice va ls.length ca, .slice vb lp.length cb] 26)) w1.heap.size (w.heap.size + 1) va ca vb cb ls lp W0.heap.size w1.heap.size) := ⟨bA (bT HB0.out hb) _, box2_at w1 _ _, BoxA.alloc (BoxA.below HR.out hb (by omega)) _, ho.below (bself _), by omega, by simp, by omega, by omega, by simp, by simp; omega, by omega, by omega, by omega⟩
  obtain ⟨W1, hW1⟩ : ∃ W1, W1 = w1.alloc (.cells #[.slice va ls.length ca, .slice vb lp.length cb] 26) := ⟨_, rfl⟩
  rw [← hW1] at HT
  have HF1 : Hid (Fits ls lp) := HF.out
  clear ho hb HB0 HR HS HP HF
  go_wp2_with fail
  rw [← hW1]
  clear hW1
  generalize w1.heap.size = gn at *
  go_loopw [13] (fun i W => ∃ k : Nat, k ≤ σ.length ∧ i = .int .i64 k ∧ TakeRel w gn (w.heap.size + 1) ls lp σ k W) (fun i _ => σ.length - (intOf i).toNat)
  case atStart => exact ⟨0, by omega, rfl, va, ca, vb, cb, ls, lp, _, _, HT.out, HF1.out, rfl⟩
  case round =>
    obtain ⟨k, hk, rfl, va, ca, vb, cb, lk, qk, lo, hi, hT, hF, hR⟩ := hrel
    clear HT HF1
    have HT : Hid _ := hT
    have HF : Hid _ := hF
    have h5 := hT.h5
    have h6 := hT.h6
    obtain ⟨n0, n1, nf⟩ := Box2.cells hT.n
    obtain ⟨r0, r1, r2, r3, r4⟩ := BoxA.cells hT.r
    have rf := BoxA.frozen hT.r
    clear hT hF
    by_cases hlt : k < σ.length
    · have hlt2 : (k : Int) < (σ.length : Int) := by omega
      obtain ⟨sb, so, rfl, s0, s1, s2⟩ := Step.at (HV.out.below HT.out.b) k hlt
      have HD : Hid _ := runO_drop lk qk σ k hlt
      have hys := HSZ.out σ[k] (List.getElem_mem hlt)
      have HFO : Hid _ := stepO_fits lk qk σ[k]
      have K : Hid (∀ W1, Below _ _ W1 → Calls Tryz.prog 63 #[.agg #[.bool σ[k].1, .int .i64 σ[k].2.1, .string σ[k].2.2], .agg #[.slice va lk.length ca, .slice vb qk.length cb]] W1 fun e w' => Told W1 (stepO lk qk σ[k]) e w') := fun W1 hb => implOn_any σ[k] _ _ lk qk W1 (HT.out.o.strs.below hb) (HT.out.o.pends.below hb) HF.out hys
      have HRD : Hid (runO ls lp σ = if (stepO lk qk σ[k]).c = 0 then runO (stepO lk qk σ[k]).ls (stepO lk qk σ[k]).lp (σ.drop (k + 1)) else illA (stepO lk qk σ[k]).c) := hR.trans HD.out
      clear hR HD hys
      generalize stepO lk qk σ[k] = O at *
      obtain ⟨ol, op, ot, oc⟩ := O
      generalize σ[k].1 = f at *
      generalize σ[k].2.1 = x at *
      generalize σ[k].2.2 = s at *
      go_wp2_with fail
      refine (K.out _ (bself _)).mono ?_
      rintro e w2 ⟨us, up, rfl, ho, hb⟩
      dsimp only at ho
      obtain ⟨va2, ca2, vb2, cb2, rfl, rfl⟩ := ho.shape
      have hbb := bT (bself _) hb
      have hz2 := hb.size
      simp only [World.size_alloc] at hz2
      have hq1 : gn < w2.heap.size := by omega
      have hq3 : w.heap.size + 1 < w2.heap.size := by omega
      obtain ⟨m0, m1, mf⟩ := Box2.cells (Box2.below HT.out.n hbb h5)
      obtain ⟨t0, t1, t2, t3, t4⟩ := BoxA.cells (BoxA.below HT.out.r hbb h6)
      have tf := BoxA.frozen (BoxA.below HT.out.r hbb h6)
      have HO : Hid _ := ho
      have HBB : Hid _ := hbb
      clear ho hb hbb n0 n1 nf r0 r1 r2 r3 r4 rf
      by_cases hc : oc = 0
      · have hcb : (oc != 0) = false := by simp [hc]
        have HR2 : Hid (runO ls lp σ = runO ol op (σ.drop (k + 1))) := by have h := HRD.out; unfold Hid; rw [h]; exact if_pos hc
        clear hc
        go_wp2
        go_roundw
        case rel => exact ⟨k + 1, by omega, by go_num, _, _, _, _, ol, op, _, _, takeSt_next HT.out HBB.out HO.out (by simp), HFO.out, HR2.out⟩
        case measure => simp [intOf]; omega
      · have hcb : (oc != 0) = true := by simp [hc]
        have HR2 : Hid (runO ls lp σ = illA oc) := by have h := HRD.out; unfold Hid; rw [h]; exact if_neg hc
        go_wp2_with fail
        exact bodyPost_ret (v := outA (.slice none 0 0) (.slice none 0 0) ByteArray.empty 0 oc) (by simp [results, Tryz.results33, go_sem, t0, t1, t2, t3, t4, hq3]; rfl) rfl (by rw [HR2.out]; exact ToldA.alloc (told_set5 (o := illA oc) (own_zero _ _ _) (bT HT.out.b HBB.out) (Nat.le_refl _) (Nat.le_of_lt hq3) (.inr (by omega)) (by omega)) _)
    · have e : k = σ.length := by omega
      subst e
      have HR2 : Hid (runO ls lp σ = ⟨lk, qk, ByteArray.empty, 0, 0⟩) := by unfold Hid; rw [hR]; exact runO_end lk qk σ _ (Nat.le_refl _)
      clear hR
      go_wp2_with fail
      exact bodyPost_ret (v := outA (.slice va lk.length ca) (.slice vb qk.length cb) ByteArray.empty 0 0) (by simp [results, Tryz.results33, go_sem, r0, r1, r2, r3, r4]; rfl) rfl (by rw [HR2.out]; exact told_set5 (o := ⟨lk, qk, ByteArray.empty, 0, 0⟩) HT.out.o HT.out.b HT.out.h1 HT.out.h2 HT.out.h4 HT.out.h8)
end Go.Proofs.YtkigmpeanllimaaGreatDoor.Disk

/- The program's AreaFormat. -/
namespace Go.Proofs.YtkigmpeanllimaaGreatDoor.Disk
open Go.RowKit Go.Proofs.YtkigmpeanllimaaGreatDoor.Mem Go.Proofs.YtkigmpeanllimaaGreatDoor.Harn Go.Proofs.YtkigmpeanllimaaGreatDoor.DiskP

def formatO (ls : List ByteArray) (lp : List (Int × ByteArray)) : AOut := if rightB ls lp = true then (if ls.length < 3 then illA 9 else runO ls lp [(false, 0, headB 0 0 0), (true, 0, ByteArray.empty)]) else illA 1
theorem formatO_form {ls : List ByteArray} {lp : List (Int × ByteArray)} (h : rightB ls lp = false) : formatO ls lp = illA 1 := by unfold formatO; rw [h]; rfl
theorem formatO_full {ls : List ByteArray} {lp : List (Int × ByteArray)} (h : rightB ls lp = true) (h2 : ls.length < 3) : formatO ls lp = illA 9 := by unfold formatO; rw [if_pos h, if_pos h2]
theorem formatO_ok {ls : List ByteArray} {lp : List (Int × ByteArray)} (h : rightB ls lp = true) (h2 : ¬ ls.length < 3) : formatO ls lp = runO ls lp [(false, 0, headB 0 0 0), (true, 0, ByteArray.empty)] := by unfold formatO; rw [if_pos h, if_neg h2]
theorem formatO_fits {ls : List ByteArray} {lp : List (Int × ByteArray)} (h : Fits ls lp) : Fits (formatO ls lp).ls (formatO ls lp).lp := by
  unfold formatO
  split
  · split
    · exact fits_nil
    · exact runO_fits _ ls lp h
  · exact fits_nil
theorem formatO_len {ls : List ByteArray} {lp : List (Int × ByteArray)} (h : Fits ls lp) : (formatO ls lp).ls.length ≤ 1100000 ∧ (formatO ls lp).lp.length ≤ 1100000 := ⟨(formatO_fits h).n, (formatO_fits h).m⟩

set_option maxRecDepth 100000 in
set_option maxHeartbeats 4000000 in
theorem implFormat_any (vs vp : Value) (ls : List ByteArray) (lp : List (Int × ByteArray)) (w : World) (hs : Strs w vs ls) (hp : Pends w vp lp) (hf : Fits ls lp) :
    Calls Tryz.prog 10 #[.agg #[vs, vp]] w fun e w' => ToldA w (formatO ls lp) e w' := by
  obtain ⟨va, ca, rfl, hsv⟩ := id hs
  clear hsv
  obtain ⟨W0, hW0⟩ : ∃ W0, W0 = (w.alloc (.cells #[.slice va ls.length ca, vp] 26)).alloc (.cells #[.slice none 0 0, .slice none 0 0, .string { data := #[] }, .int .i64 0, .int .i64 0] 31) := ⟨_, rfl⟩
  have HB0 : Hid (Below w.heap.size w W0) := by rw [hW0]; exact bA (bself _) _
  have HZ : Hid (W0.heap.size = w.heap.size + 2) := by rw [hW0]; simp [Hid]
  have HR : Hid (BoxA W0 (w.heap.size + 1) (.slice none 0 0) (.slice none 0 0) ByteArray.empty 0 0) := by rw [hW0]; exact Sha.row_new_at (w.alloc _) [.slice none 0 0, .slice none 0 0, .string ByteArray.empty, .int .i64 0, .int .i64 0] 31 _ (by simp)
  have HX : Hid (Box2 W0 w.heap.size (.slice va ls.length ca) vp) := by rw [hW0]; exact Sha.row_alloc (Sha.row_new w [.slice va ls.length ca, vp] 26) _
  have HS : Hid (Strs W0 (.slice va ls.length ca) ls) := hs.below HB0.out
  have HP : Hid (Pends W0 vp lp) := hp.below HB0.out
  have HF : Hid (Fits ls lp) := hf
  have K1 : Hid (Calls Tryz.prog 35 #[.agg #[.slice va ls.length ca, vp]] W0 fun e w' => e = .returned (.bool (rightB ls lp)) ∧ Below W0.heap.size W0 w') := implRight_any _ vp ls lp W0 HS.out HP.out hf.n hf.m hf.t hf.y
  clear hs hp hf
  cases hr : rightB ls lp
  · rw [formatO_form hr]
    rw [hr] at K1
    clear hr
    go_enter Tryz.func10, Tryz.ntmps10
    go_wp2_with (go_at_call 35; rw [← hW0]; clear hW0; refine K1.out.mono ?_; rintro e w1 ⟨rfl, hb1⟩; have hz := hb1.size; have hz0 := HZ.out; have HR1 : Hid _ := BoxA.below HR.out hb1 (by omega); obtain ⟨r0, r1, r2, r3, r4⟩ := BoxA.cells HR1.out; have rf := BoxA.frozen HR1.out; have HB1 : Hid _ := hb1; clear hb1)
    exact bodyPost_ret (v := outA (.slice none 0 0) (.slice none 0 0) ByteArray.empty 0 1) (by simp [results, Tryz.results10, go_sem, r0, r1, r2, r3, r4]; rfl) rfl (told_set5 (o := illA 1) (own_zero _ w.heap.size w.heap.size) (bT HB0.out HB1.out) (Nat.le_refl _) (by omega) (.inr (by omega)) (by omega))
  rw [hr] at K1
  by_cases h3 : ls.length < 3
  · rw [formatO_full hr h3]
    clear hr
    have h3i : (ls.length : Int) < 3 := by omega
    go_enter Tryz.func10, Tryz.ntmps10
    go_wp2_with (go_at_call 35; rw [← hW0]; clear hW0; refine K1.out.mono ?_; rintro e w1 ⟨rfl, hb1⟩; have hz := hb1.size; have hz0 := HZ.out; have HR1 : Hid _ := BoxA.below HR.out hb1 (by omega); obtain ⟨r0, r1, r2, r3, r4⟩ := BoxA.cells HR1.out; have rf := BoxA.frozen HR1.out; obtain ⟨x0, x1, _⟩ := Box2.cells (Box2.below HX.out hb1 (by omega)); have HB1 : Hid _ := hb1; clear hb1)
    exact bodyPost_ret (v := outA (.slice none 0 0) (.slice none 0 0) ByteArray.empty 0 9) (by simp [results, Tryz.results10, go_sem, r0, r1, r2, r3, r4]; rfl) rfl (told_set5 (o := illA 9) (own_zero _ w.heap.size w.heap.size) (bT HB0.out HB1.out) (Nat.le_refl _) (by omega) (.inr (by omega)) (by omega))
  · rw [formatO_ok hr h3]
    clear hr
    have h3i : ¬ (ls.length : Int) < 3 := by omega
    have hhd := headB_size 0 0 0
    have KH : Hid (∀ W, Calls Tryz.prog 32 #[.agg #[.int .i64 0, .int .i64 0, .int .i64 0]] W fun e w' => ∃ v, e = .returned v ∧ Steps w' v [(false, 0, headB 0 0 0), (true, 0, ByteArray.empty)] ∧ Below W.heap.size W w') := fun W => headSteps_any 0 0 0 W (by omega) (by omega) (by omega) (by omega) (by omega) (by omega)
    have KT : Hid (∀ W v, Below W0.heap.size W0 W → Steps W v [(false, 0, headB 0 0 0), (true, 0, ByteArray.empty)] → Calls Tryz.prog 33 #[.agg #[.slice va ls.length ca, vp], v] W fun e w' => ToldA W (runO ls lp [(false, 0, headB 0 0 0), (true, 0, ByteArray.empty)]) e w') := fun W v hb hv => takeSteps_any _ vp v ls lp _ W (HS.out.below hb) (HP.out.below hb) HF.out hv (by simp) (by intro y hy; simp at hy; rcases hy with rfl | rfl; (simp only; omega); simp)
    generalize headB 0 0 0 = hd at *
    generalize runO ls lp [(false, 0, hd), (true, 0, ByteArray.empty)] = o at *
    generalize ([(false, 0, hd), (true, 0, ByteArray.empty)] : List Step) = σ at *
    go_enter Tryz.func10, Tryz.ntmps10
    go_wp2_with (go_at_call 35; rw [← hW0]; clear hW0; refine K1.out.mono ?_; rintro e w1 ⟨rfl, hb1⟩; have hz := hb1.size; have hz0 := HZ.out; have HR1 : Hid _ := BoxA.below HR.out hb1 (by omega); obtain ⟨x0, x1, _⟩ := Box2.cells (Box2.below HX.out hb1 (by omega)); have HX1 : Hid _ := Box2.below HX.out hb1 (by omega); have HB1 : Hid _ := hb1; clear hb1)
    have NB : Hid (Below w1.heap.size w1 w1) := Below.refl _ _
    have KC : Hid (∀ W, Below w1.heap.size w1 W → W.cell? ⟨w.heap.size, 0, none⟩ = some (.slice va ls.length ca) ∧ W.cell? ⟨w.heap.size, 1, none⟩ = some vp) := fun W hb => ⟨(Box2.cells (Box2.below HX1.out hb (by omega))).1, (Box2.cells (Box2.below HX1.out hb (by omega))).2.1⟩
    have kQ := KC.out _ NB.out
    clear x0 x1
    go_region_held3 (fun W => W.cell? ⟨w.heap.size, 0, none⟩ = some (.slice va ls.length ca) ∧ W.cell? ⟨w.heap.size, 1, none⟩ = some vp)
      (first
        | (refine ⟨?_, ?_⟩; (rw [World.cell?_setCell_other _ _ _ _ (by intro e; injection e with e _ _; omega), World.cell?_setCell_other _ _ _ _ (by intro e; injection e with e _ _; omega), World.cell?_setCell_other _ _ _ _ (by intro e; injection e with e _ _; omega), World.cell?_setCell_other _ _ _ _ (by intro e; injection e with e _ _; omega), World.cell?_setCell_other _ _ _ _ (by intro e; injection e with e _ _; omega)]; exact kQ.1); (rw [World.cell?_setCell_other _ _ _ _ (by intro e; injection e with e _ _; omega), World.cell?_setCell_other _ _ _ _ (by intro e; injection e with e _ _; omega), World.cell?_setCell_other _ _ _ _ (by intro e; injection e with e _ _; omega), World.cell?_setCell_other _ _ _ _ (by intro e; injection e with e _ _; omega), World.cell?_setCell_other _ _ _ _ (by intro e; injection e with e _ _; omega)]; exact kQ.2))
        | exact kQ)
      (first
        | (go_at_call 32; refine (KH.out _).mono ?_; rintro e u ⟨v, rfl, hst, hb⟩; have HST : Hid _ := hst; have NB : Hid (Below w1.heap.size w1 u) := bT (by repeat' (first | exact NB.out | apply bD)) hb; clear kQ; have kQ := KC.out _ NB.out; clear hb hst)
        | (go_at_call 33; refine (KT.out _ v (by refine bT HB1.out ?_; repeat' (first | exact NB.out | apply bD)) (by refine Steps.below HST.out ?_; repeat' (first | exact Below.refl _ _ | apply bD))).mono ?_; rintro e u2 ⟨us, up, rfl, ho, hb⟩; obtain ⟨va2, ca2, vb2, cb2, rfl, rfl⟩ := ho.shape; have HO : Hid _ := ho.wide (lo' := w1.heap.size) (by apply Below.size; repeat' (first | exact NB.out | apply bD)) (Nat.le_refl _); have NB2 : Hid (Below w1.heap.size w1 u2) := bT (by repeat' (first | exact NB.out | apply bD)) hb; have hzu := NB2.out.size; clear kQ; have kQ := KC.out _ NB2.out; have HR2 : Hid _ := BoxA.below HR1.out NB2.out (by omega); obtain ⟨r0, r1, r2, r3, r4⟩ := BoxA.cells HR2.out; have rf := BoxA.frozen HR2.out; clear hb ho))
    go_wp2_with fail
    exact bodyPost_ret (v := outA (.slice va2 o.ls.length ca2) (.slice vb2 o.lp.length cb2) o.t o.g o.c) (by simp [results, Tryz.results10, go_sem, r0, r1, r2, r3, r4]) rfl (told_set5 HO.out (bT (bT HB0.out HB1.out) NB2.out) (by omega) (Nat.le_refl _) (.inl (by omega)) (by omega))
end Go.Proofs.YtkigmpeanllimaaGreatDoor.Disk

/- What the program's DiskCrash answers. -/
namespace Go.Proofs.YtkigmpeanllimaaGreatDoor.Disk
open Go.RowKit Go.Proofs.YtkigmpeanllimaaGreatDoor.Mem Go.Proofs.YtkigmpeanllimaaGreatDoor.Harn Go.Proofs.YtkigmpeanllimaaGreatDoor.DiskP

theorem keptD_mem {lp : List (Int × ByteArray)} {kp : List Int} {P : Int × ByteArray → Prop} (h : ∀ y ∈ lp, P y) : ∀ y ∈ keptD lp kp, P y := fun y hy => h y (keptTo_mem lp kp lp.length y hy)

set_option maxRecDepth 100000 in
set_option maxHeartbeats 2000000 in
theorem implCrash_any (vs vp vk : Value) (ls : List ByteArray) (lp : List (Int × ByteArray)) (kp : List Int) (w : World) (hs : Strs w vs ls) (hp : Pends w vp lp) (hk : Ints w vk kp) (hkn : kp.length ≤ 1100000) (hf : Fits ls lp) :
    Calls Tryz.prog 19 #[.agg #[vs, vp], vk] w fun e w' => ToldD w (crashO ls lp kp).1 (crashO ls lp kp).2 e w' := by
  obtain ⟨W0, hW0⟩ : ∃ W0, W0 = (w.alloc (.cells #[vs, vp] 26)).alloc (.cells #[.slice none 0 0, .slice none 0 0] 26) := ⟨_, rfl⟩
  have HB0 : Hid (Below w.heap.size w W0) := by rw [hW0]; exact ((Below.refl _ _).alloc (Nat.le_refl _) _).alloc (by simp) _
  have HX0 : Hid (Box2 W0 w.heap.size vs vp) := by rw [hW0]; exact box2_new w vs vp _
  have HY0 : Hid (Box2 W0 (w.heap.size + 1) (.slice none 0 0) (.slice none 0 0)) := by rw [hW0]; exact Sha.row_new_at (w.alloc _) [.slice none 0 0, .slice none 0 0] 26 _ (by simp)
  have HZ0 : Hid (W0.heap.size = w.heap.size + 2) := by rw [hW0]; simp [Hid]
  have HK : Hid (Calls Tryz.prog 35 #[.agg #[vs, vp]] W0 fun e w' => e = .returned (.bool (rightB ls lp)) ∧ Below W0.heap.size W0 w') := implRight_any vs vp ls lp _ (Strs.below hs HB0.out) (Pends.below hp HB0.out) hf.n hf.m hf.t hf.y
  have HS : Hid (Strs w vs ls) := hs
  have HP : Hid (Pends w vp lp) := hp
  have HKI : Hid (Ints w vk kp) := hk
  have HF : Hid (Fits ls lp) := hf
  clear hs hp hf
  obtain ⟨ka, kc, rfl, _⟩ := hk
  by_cases s1 : 400 < kp.length
  · rw [crashO_size s1]
    go_enter Tryz.func19, Tryz.ntmps19
    go_wp2_with fail
    refine bodyPost_ret (v := .agg #[.slice none 0 0, .slice none 0 0]) (by simp [results, Tryz.results19, go_sem]) rfl ⟨_, _, rfl, own_zero _ _ _, ?_⟩
    repeat' (first | exact ((Below.refl _ _).alloc (Nat.le_refl _) _).alloc (by simp) _ | refine Below.setCell ?_ (by simp) _)
  have hd4 : decide (400 < (kp.length : Int)) = false := decide_eq_false (by omega)
  cases hr : rightB ls lp with
  | false =>
    rw [hr] at HK
    rw [crashO_form s1 hr]
    clear hr
    go_enter Tryz.func19, Tryz.ntmps19
    go_wp2_with fail
    rw [← hW0]
    refine HK.out.mono ?_
    rintro e w1 ⟨rfl, hb1⟩
    have hz1 : w.heap.size + 2 ≤ w1.heap.size := by have := hb1.size; have := HZ0.out; omega
    have HB1 : Hid (Below w.heap.size w w1) := bT HB0.out hb1
    have HX1 : Hid _ := Box2.below HX0.out hb1 (by have := HZ0.out; omega)
    have HY1 : Hid _ := Box2.below HY0.out hb1 (by have := HZ0.out; omega)
    clear hb1 hW0
    obtain ⟨c0, c1, _⟩ := Box2.cells HX1.out
    go_wp2_with (go_at_call 28; refine (copyDisk_any _ _ ls lp _ (Strs.below HS.out HB1.out) (Pends.below HP.out HB1.out) HF.out.n HF.out.m HF.out.t2 HF.out.y2).mono ?_; rintro e w2 ⟨us, up, rfl, ho2, hb2⟩; obtain ⟨va, ca, vb, cb, rfl, rfl⟩ := ho2.shape; have HO2 : Hid _ := ho2; have HB2 : Hid (Below w.heap.size w w2) := bT HB1.out hb2; have hz2 := hb2.size; obtain ⟨m0, m1, mf⟩ := (Box2.below HY1.out hb2 (by omega)).cells; clear ho2 hb2 c0 c1)
    refine bodyPost_ret (v := .agg #[.slice va ls.length ca, .slice vb lp.length cb]) (by simp [results, Tryz.results19, go_sem, m0, m1]) rfl ⟨_, _, rfl, ?_, ?_⟩
    · refine Own.wide (lo := w1.heap.size) (hi := w2.heap.size) ?_ (by omega) (by simp)
      exact Own.setCell (Own.setCell HO2.out (.inl (by simp; omega)) _) (.inl (by simp; omega)) _
    · exact (HB2.out.setCell (p := ⟨w.heap.size + 1, 0, none⟩) (by simp) _).setCell (p := ⟨w.heap.size + 1, 1, none⟩) (by simp) _
  | true =>
    obtain ⟨r1, r2, r3, r4, r5, r6, r7⟩ := right_pends hr
    rw [hr] at HK
    rw [crashO_ok s1 hr]
    have R1 : Hid (∀ y ∈ keptD lp kp, 0 ≤ y.1 ∧ y.1 < 64) := keptD_mem r1
    have R2 : Hid (∀ y ∈ keptD lp kp, 0 ≤ y.1 ∧ y.2.size ≤ 2000000) := keptD_mem r2
    have R3 : Hid (∀ t ∈ ls, t.size ≤ 2000000) := r3
    have R4 : Hid ((keptD lp kp).length ≤ 200) := Nat.le_trans (keptTo_len lp kp lp.length) r6
    have HLN : Hid ((flushD ls (keptD lp kp)).length = ls.length) := length_flushD _ _
    clear hr r1 r2 r3 r7
    go_enter Tryz.func19, Tryz.ntmps19
    go_wp2_with fail
    rw [← hW0]
    refine HK.out.mono ?_
    rintro e w1 ⟨rfl, hb1⟩
    have hz1 : w.heap.size + 2 ≤ w1.heap.size := by have := hb1.size; have := HZ0.out; omega
    have HB1 : Hid (Below w.heap.size w w1) := bT HB0.out hb1
    have HX1 : Hid _ := Box2.below HX0.out hb1 (by have := HZ0.out; omega)
    have HY1 : Hid _ := Box2.below HY0.out hb1 (by have := HZ0.out; omega)
    clear hb1 hW0
    obtain ⟨c0, c1, _⟩ := Box2.cells HX1.out
    obtain ⟨d0, d1, df⟩ := Box2.cells HY1.out
    have n1 : ¬ w.heap.size + 1 = w.heap.size := by omega
    go_wp2_with fail
    go_region_held3 (fun w' => w'.cell? ⟨w.heap.size, 0, none⟩ = some vs ∧ w'.cell? ⟨w.heap.size, 1, none⟩ = some vp)
      (first
        | go_keep
        | (go_split_ands; refine ⟨?_, ?_⟩ <;> (rw [World.cell?_setCell_other _ _ _ _ (by intro e; injection e with e _ _; omega), World.cell?_setCell_other _ _ _ _ (by intro e; injection e with e _ _; omega)]; first | exact j0 | exact j1))
        | (go_split_ands; refine ⟨?_, ?_⟩ <;> (first | exact j0 | exact j1))
        | (go_split_ands; refine ⟨?_, ?_⟩ <;> (first | exact k0 | exact k1))
        | (go_split_ands; refine ⟨?_, ?_⟩ <;> (first | exact l0 | exact l1)))
      (first
        | (go_at_call 51; refine (kept_any vp _ lp kp _ (Pends.below HP.out (by repeat' (first | exact HB1.out | apply bD))) (Ints.below HKI.out (by repeat' (first | exact HB1.out | apply bD))) r6).mono ?_; rintro e w2 ⟨v2, rfl, hp2, hb2⟩; have hb12 : Below w1.heap.size w1 w2 := (by refine bT ?_ hb2; repeat' (first | exact Below.refl _ _ | apply bD)); have HP2 : Hid _ := hp2; have HB12 : Hid _ := hb12; have hz2 := hb12.size; have l0 := (hb12.cell (p := ⟨w.heap.size, 0, none⟩) (by simp; omega)).trans c0; have l1 := (hb12.cell (p := ⟨w.heap.size, 1, none⟩) (by simp; omega)).trans c1; clear hp2 hb2 hb12)
        | (go_at_call 50; refine (workOn_any vs v2 ls (keptD lp kp) _ (Strs.below HS.out (bT HB1.out HB12.out)) HP2.out HF.out.n (by have := R4.out; omega) R3.out R1.out).mono ?_; rintro e w3 ⟨gs, gm, rfl, a1, a2, a3, a4, a5, a6, a7, hb3⟩; have HA1 : Hid _ := a1; have HA2 : Hid _ := a2; have HB3 : Hid _ := hb3; have hz3 := hb3.size; have k0 := (hb3.cell (p := ⟨w.heap.size, 0, none⟩) (by simp; omega)).trans l0; have k1 := (hb3.cell (p := ⟨w.heap.size, 1, none⟩) (by simp; omega)).trans l1; clear a1 a2 hb3)
        | (go_at_call 52; refine (flush_any gs gm (keptD lp kp).length ls.length w2.heap.size ls (keptD lp kp) _ HA1.out HA2.out a5 a6 a3 a4 r5 R2.out).mono ?_; rintro e w4 ⟨rfl, b1, hb4⟩; have HF4 : Hid _ := b1; have HB4 : Hid _ := hb4; have hz4 := hb4.size; have j0 := (hb4.cell (p := ⟨w.heap.size, 0, none⟩) (by simp; omega)).trans k0; have j1 := (hb4.cell (p := ⟨w.heap.size, 1, none⟩) (by simp; omega)).trans k1; obtain ⟨m0, m1, mf⟩ := (Box2.below (Box2.below (Box2.below HY1.out HB12.out (by omega)) HB3.out (by omega)) hb4 (by omega)).cells; clear b1 hb4))
    have HB5 : Hid (Below w.heap.size w w4) := ((HB1.out.trans (HB12.out.mono (by omega))).trans (HB3.out.mono (by omega))).trans (HB4.out.mono (by omega))
    go_wp2_with fail
    refine bodyPost_ret (v := .agg #[.slice (some ⟨gs, 0, none⟩) ls.length ls.length, .slice none 0 0]) (by simp [results, Tryz.results19, go_sem, m0, m1]) rfl ⟨_, _, rfl, ?_, ?_⟩
    · rw [← HLN.out]
      refine own_mk0 ?_ (by omega) (by simp; omega)
      refine StrsAt.other (StrsAt.other HF4.out ?_ _) ?_ _ <;> (simp only; omega)
    · refine (HB5.out.setCell ?_ _).setCell ?_ _ <;> (simp only; omega)
end Go.Proofs.YtkigmpeanllimaaGreatDoor.Disk

/- The program's steps of a text, and the first of the steps. -/
namespace Go.Proofs.YtkigmpeanllimaaGreatDoor.Disk
open Go.RowKit Go.Proofs.YtkigmpeanllimaaGreatDoor.Mem Go.Proofs.YtkigmpeanllimaaGreatDoor.Harn Go.Proofs.YtkigmpeanllimaaGreatDoor.DiskP

theorem steps1 {W : World} {b : Nat} {f : Bool} {x : Int} {h : ByteArray} (hr : HasRow W b [.bool f, .int .i64 x, .string h] 97) : Steps W (.slice (some ⟨b, 0, none⟩) 1 1) [(f, x, h)] := by
  refine ⟨some ⟨b, 0, none⟩, 1, rfl, fun j hj => ⟨b, 0, rfl, ?_⟩⟩
  match j, hj with
  | 0, _ => exact ⟨Mem.cell_of_row hr 0, Mem.cell_of_row hr 1, Mem.cell_of_row hr 2⟩
theorem wp_step1 {w : World} {ops : Array Oper} {rest : List Oper} {o : Oper} {a : Act} {Q : Exit → Act → World → Prop} (hgd : o.guard = none) (s x : Operand)
    (ho : o.op = .call { callee := .builtin .append, args := #[s, x], argTypes := #[58, 58] }) (base b : Nat) (v : Value) (l : List Step) (y : Step) (hs : a.eval s = v) (hx : a.eval x = .slice (some ⟨b, 0, none⟩) 1 1)
    (h : OwnS w base v l) (hbase : base ≤ w.heap.size) (hm : Steps w (.slice (some ⟨b, 0, none⟩) 1 1) [y]) (hn : l.length ≤ 1000000)
    (hK : ∀ g cap w', OwnS w' base (.slice (some ⟨g, 0, none⟩) (l.length + 1) cap) (l ++ [y]) → Below base w w' → w.heap.size ≤ w'.heap.size → wpList Tryz.prog ops Q rest (a.put o.dst (.slice (some ⟨g, 0, none⟩) (l.length + 1) cap)) w') : wpList Tryz.prog ops Q (o :: rest) a w := by
  obtain ⟨g', cap, w', hr, a1, a2, a3⟩ := app_steps o.type base b 0 1 v l [y] w h hbase hm (by simp) (by simp; omega)
  exact wp_app hgd s x _ ho _ _ _ w' hs hx hr (hK g' cap w' a1 ((Below.refl base w).grown a3 hbase (fun j hj => (World.ownsRow.lt h j hj).1)) a3.size)
theorem rest_piece (s : ByteArray) (k : Nat) (h : 64 * k < s.size) : (s.extract (64 * k) s.size).extract 0 (min (s.size - 64 * k) 64) = pieceN s k ∧ (s.extract (64 * k) s.size).extract (min (s.size - 64 * k) 64) (s.size - 64 * k) = s.extract (64 * (k + 1)) s.size := by
  unfold pieceN
  constructor
  · rw [ByteArray.extract_extract]
    congr 1 <;> omega
  · rw [ByteArray.extract_extract]
    by_cases hq : s.size - 64 * k ≤ 64
    · refine Unseal.ba_ext ?_
      simp
      rw [List.drop_eq_nil_of_le (by simp; omega), List.drop_eq_nil_of_le (by simp; omega), List.take_nil, List.take_nil]
    · congr 1 <;> omega

set_option maxRecDepth 100000 in
set_option maxHeartbeats 2000000 in
theorem textSteps_any (s : ByteArray) (st : Nat) (w : World) (hs : s.size ≤ 8000) (hst : st ≤ 64) :
    Calls Tryz.prog 30 #[.string s, .int .i64 (st : Int)] w fun e w' => ∃ v, e = .returned v ∧ OwnS w' w.heap.size v (textS s st) ∧ Below w.heap.size w w' := by
  have hT : textN s = (s.size + 63) / 64 := rfl
  have HP : Hid (∀ k, 64 * k < s.size → (s.extract (64 * k) s.size).extract 0 (min (s.size - 64 * k) 64) = pieceN s k ∧ (s.extract (64 * k) s.size).extract (min (s.size - 64 * k) 64) (s.size - 64 * k) = s.extract (64 * (k + 1)) s.size) := fun k h => rest_piece s k h
  have HTS : Hid (textS s st = preS s st (textN s) ++ [(true, 0, ByteArray.empty)]) := rfl
  have HSU : Hid (∀ k, preS s st (k + 1) = preS s st k ++ [(false, (st : Int) + (k : Int), pieceN s k)]) := fun k => by rw [preS_succ, Int.natCast_add]
  have HS0 : Hid (s = s.extract (64 * 0) s.size) := by unfold Hid; simp
  have HZS : Hid (∀ k, (s.extract (64 * k) s.size).size = s.size - 64 * k) := fun k => by simp
  have HLN : Hid (∀ k, (preS s st k).length = k) := fun k => preS_len s st k
  have HPZ : Hid (∀ k, (pieceN s k).size ≤ 64) := fun k => piece_size s k
  generalize textN s = T at *
  generalize textS s st = R at *
  generalize preS s st = pr at *
  generalize hpc : pieceN s = pc at *
  go_enter Tryz.func30, Tryz.ntmps30
  go_wp2_with fail
  go_loopw [0, 5, 6] (fun t v i W => ∃ k : Nat, k ≤ T ∧ t = .string (s.extract (64 * k) s.size) ∧ i = .int .i64 ((st : Int) + (k : Int)) ∧ Hid (OwnS W w.heap.size v (pr k)) ∧ Hid (Below w.heap.size w W)) (fun _ _ i _ => T + st - (intOf i).toNat)
  case atStart => exact ⟨0, by omega, by rw [← HS0.out], by simp, by have h := HLN.out 0; rw [List.eq_nil_of_length_eq_zero h]; exact ownS_nil _ _, Below.refl _ _⟩
  case round =>
    obtain ⟨k, hk, rfl, rfl, HOW, HBW⟩ := hrel
    have hz := HZS.out k
    have hzw := HBW.out.size
    by_cases hlt : k < T
    · have hkT : k + 1 ≤ T := hlt
      have hks : 64 * k < s.size := by omega
      obtain ⟨h1, h2⟩ := HP.out k hks
      have hsu := HSU.out k
      have hpz := HPZ.out k
      generalize hpk : pc k = p at *
      obtain ⟨c, hc⟩ : ∃ c, min (s.size - 64 * k) 64 = c := ⟨_, rfl⟩
      rw [hc] at h1 h2
      have hll := HLN.out k
      have HRE : Hid (s.extract (64 * (k + 1)) s.size = (s.extract (64 * k) s.size).extract c (s.size - 64 * k)) := h2.symm
      obtain ⟨t, ht⟩ : ∃ t, s.extract (64 * k) s.size = t := ⟨_, rfl⟩
      rw [ht] at hz h1 HRE ⊢
      obtain ⟨t2, ht2⟩ : ∃ t2, t.extract c (s.size - 64 * k) = t2 := ⟨_, rfl⟩
      rw [ht2] at HRE
      have hpsz : p.size = c := by rw [← h1]; simp; omega
      have ht3 : t.extract c t.size = t2 := by rw [hz]; exact ht2
      have hmn : ∀ W, (Builtin.min_ #[3, 3] 3 #[.int .i64 (t.size : Int), .int .i64 64]).run Tryz.prog W = .ok (.int .i64 (c : Int)) W := fun W => by
        by_cases hh : (t.size : Int) ≤ 64
        · have e : (c : Int) = (t.size : Int) := by omega
          rw [e]
          simp [Builtin.min_, Builtin.min2]
          try omega
        · have e : (c : Int) = 64 := by omega
          rw [e]
          simp [Builtin.min_, Builtin.min2]
          try omega
      have htp : (0 : Int) < (t.size : Int) := by omega
      have hct : (c : Int) ≤ (t.size : Int) := by omega
      have hcn : ¬ t.size < c := by omega
      have HSUH : Hid (pr (k + 1) = pr k ++ [(false, (st : Int) + (k : Int), p)]) := hsu
      have h64 : t.size ≤ 8000 := by omega
      have hlb : (pr k).length ≤ 1000000 := by omega
      have hTb : T ≤ 200 := by omega
      clear hsu h2 ht ht2 hpk hpc hc hz hk hlt hks hT hll
      generalize pr k = lk at *
      go_wp2_with (at_builtin; refine wp_step1 (by rfl) _ _ (by rfl) w.heap.size wr.heap.size u5 lk (false, (st : Int) + (k : Int), p) (by rfl) (by rfl) (OwnS.below HOW.out (bself _)) (by simp; omega) (steps1 (Sha.row_new wr [.bool false, .int .i64 ((st : Int) + (k : Int)), .string p] 97)) hlb ?_; intro g cap w1 ho1 hb1 hz1; have HO1 : Hid _ := ho1; have HB1 : Hid (Below w.heap.size w w1) := (bA HBW.out _).trans hb1; clear ho1 hb1)
      go_roundw
      case rel => exact ⟨k + 1, hkT, by rw [HRE.out], by go_num, by rw [HSUH.out]; exact HO1.out, HB1.out⟩
      case measure => simp [intOf]; omega
    · have e : k = T := by omega
      have htz : (s.extract (64 * k) s.size).size = 0 := by omega
      have HTS2 : Hid (R = pr k ++ [(true, 0, ByteArray.empty)]) := by rw [e]; exact HTS.out
      have hll := HLN.out k
      have hlb : (pr k).length ≤ 1000000 := by omega
      clear hz hT hll
      generalize s.extract (64 * k) s.size = t at *
      generalize pr k = lk at *
      go_wp2_with (at_builtin; refine wp_step1 (by rfl) _ _ (by rfl) w.heap.size wr.heap.size u5 lk (true, 0, ByteArray.empty) (by rfl) (by rfl) (OwnS.below HOW.out (bself _)) (by simp; omega) (steps1 (Sha.row_new wr [.bool true, .int .i64 0, .string ByteArray.empty] 97)) hlb ?_; intro g cap w1 ho1 hb1 hz1; have HO1 : Hid _ := ho1; have HB1 : Hid (Below w.heap.size w w1) := (bA HBW.out _).trans hb1; clear ho1 hb1)
      go_ret
      exact ⟨_, rfl, by rw [HTS2.out]; exact HO1.out, HB1.out⟩
end Go.Proofs.YtkigmpeanllimaaGreatDoor.Disk
