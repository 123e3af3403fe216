/- What the program's withBlock answers: the state behind one more block. -/
import Derived.Test.YtjgkekgieodhnabDoorImplWords
import Derived.Test.YtjgkekgieodhnabDoorShaRaw
import Derived.Deep.QuietTactic
import Derived.BigQuiet
namespace Go.Proofs.YtjgkekgieodhnabDoor.Sha
open Go.RowKit Go.Proofs.YtjgkekgieodhnabDoor.Mem

/-- The program's table of the rounds' numbers stands in its variable. -/
def KeysLaid (w : World) : Prop := ∀ j, j < 64 → w.cell? ⟨0, j, none⟩ = some (.int .u32 (keys.getD j 0 : Nat))

theorem thrice1 (x : Nat) (w : World) (hx : x < 4294967296) :
    Calls Tryd.prog 55 #[.int .u32 x, .int .i64 6, .int .i64 11, .int .i64 25] w fun e w' => e = .returned (.int .u32 (sg1 x : Nat)) ∧ w' = w :=
  (implThrice_any x 6 11 25 w hx (by omega) (by omega) (by omega) (by omega) (by omega) (by omega)).mono fun _ _ h => ⟨h.1, h.2.symm⟩
theorem thrice0 (x : Nat) (w : World) (hx : x < 4294967296) :
    Calls Tryd.prog 55 #[.int .u32 x, .int .i64 2, .int .i64 13, .int .i64 22] w fun e w' => e = .returned (.int .u32 (sg0 x : Nat)) ∧ w = w' :=
  implThrice_any x 2 13 22 w hx (by omega) (by omega) (by omega) (by omega) (by omega) (by omega)

theorem cells8 {w : World} {g : Nat} {s : St} {e : TypeId} (h : HasRow w g (u32s (listOf s)) e) :
    w.cell? ⟨g, 0, none⟩ = some (.int .u32 (s.a : Nat)) ∧ w.cell? ⟨g, 1, none⟩ = some (.int .u32 (s.b : Nat)) ∧ w.cell? ⟨g, 2, none⟩ = some (.int .u32 (s.c : Nat)) ∧ w.cell? ⟨g, 3, none⟩ = some (.int .u32 (s.d : Nat)) ∧
    w.cell? ⟨g, 4, none⟩ = some (.int .u32 (s.e : Nat)) ∧ w.cell? ⟨g, 5, none⟩ = some (.int .u32 (s.f : Nat)) ∧ w.cell? ⟨g, 6, none⟩ = some (.int .u32 (s.g : Nat)) ∧ w.cell? ⟨g, 7, none⟩ = some (.int .u32 (s.h : Nat)) :=
  ⟨Mem.cell_of_row h 0, Mem.cell_of_row h 1, Mem.cell_of_row h 2, Mem.cell_of_row h 3, Mem.cell_of_row h 4, Mem.cell_of_row h 5, Mem.cell_of_row h 6, Mem.cell_of_row h 7⟩

theorem infoS : (Tryd.prog.info? 66).map (·.size) = some 8 := by kernel_rfl
theorem underS8 : Tryd.prog.underlying 66 = some (.array 8 59) := by kernel_rfl
theorem row_set8 {w : World} {g : Nat} {t : St} {e : TypeId} (h : HasRow w g (u32s (listOf t)) e) (v0 v1 v2 v3 v4 v5 v6 v7 : Value) :
    HasRow ((((((((w.setCell ⟨g, 0, none⟩ v0).setCell ⟨g, 1, none⟩ v1).setCell ⟨g, 2, none⟩ v2).setCell ⟨g, 3, none⟩ v3).setCell ⟨g, 4, none⟩ v4).setCell ⟨g, 5, none⟩ v5).setCell ⟨g, 6, none⟩ v6).setCell ⟨g, 7, none⟩ v7) g [v0, v1, v2, v3, v4, v5, v6, v7] e := by
  have := row_set (row_set (row_set (row_set (row_set (row_set (row_set (row_set h 0 v0) 1 v1) 2 v2) 3 v3) 4 v4) 5 v5) 6 v6) 7 v7
  simpa [u32s, listOf] using this
theorem row_other8 {w : World} {g k : Nat} {cs : List Value} {e : TypeId} (h : HasRow w k cs e) (hk : k ≠ g) (v0 v1 v2 v3 v4 v5 v6 v7 : Value) :
    HasRow ((((((((w.setCell ⟨g, 0, none⟩ v0).setCell ⟨g, 1, none⟩ v1).setCell ⟨g, 2, none⟩ v2).setCell ⟨g, 3, none⟩ v3).setCell ⟨g, 4, none⟩ v4).setCell ⟨g, 5, none⟩ v5).setCell ⟨g, 6, none⟩ v6).setCell ⟨g, 7, none⟩ v7) k cs e :=
  row_other (row_other (row_other (row_other (row_other (row_other (row_other (row_other h _ _ hk) _ _ hk) _ _ hk) _ _ hk) _ _ hk) _ _ hk) _ _ hk) _ _ hk
theorem bel_set8 {w a : World} {g B : Nat} (h : Below B a w) (hk : B ≤ g) (v0 v1 v2 v3 v4 v5 v6 v7 : Value) :
    Below B a ((((((((w.setCell ⟨g, 0, none⟩ v0).setCell ⟨g, 1, none⟩ v1).setCell ⟨g, 2, none⟩ v2).setCell ⟨g, 3, none⟩ v3).setCell ⟨g, 4, none⟩ v4).setCell ⟨g, 5, none⟩ v5).setCell ⟨g, 6, none⟩ v6).setCell ⟨g, 7, none⟩ v7) :=
  (((((((h.setCell (p := ⟨g, 0, none⟩) hk v0).setCell (p := ⟨g, 1, none⟩) hk v1).setCell (p := ⟨g, 2, none⟩) hk v2).setCell (p := ⟨g, 3, none⟩) hk v3).setCell (p := ⟨g, 4, none⟩) hk v4).setCell (p := ⟨g, 5, none⟩) hk v5).setCell (p := ⟨g, 6, none⟩) hk v6).setCell (p := ⟨g, 7, none⟩) hk v7

/-- The state while the block's is added to it. -/
def mixRow (s t : St) (j : Nat) : List Value := u32s ((listOf (addSt s t)).take j ++ (listOf s).drop j)
theorem mix_set (s t : St) (j : Nat) (hj : j < 8) : (mixRow s t j).set j (.int .u32 ((listOf (addSt s t)).getD j 0 : Nat)) = mixRow s t (j + 1) := by
  match j, hj with
  | 0, _ => rfl
  | 1, _ => rfl
  | 2, _ => rfl
  | 3, _ => rfl
  | 4, _ => rfl
  | 5, _ => rfl
  | 6, _ => rfl
  | 7, _ => rfl
theorem mix_cell (s t : St) (j : Nat) (hj : j < 8) : (mixRow s t j)[j]? = some (.int .u32 ((listOf s).getD j 0 : Nat)) := by
  match j, hj with
  | 0, _ => rfl
  | 1, _ => rfl
  | 2, _ => rfl
  | 3, _ => rfl
  | 4, _ => rfl
  | 5, _ => rfl
  | 6, _ => rfl
  | 7, _ => rfl
theorem mix_fill {w : World} {g j : Nat} {s t : St} {e : TypeId} {x : Int} (h : HasRow w g (mixRow s t j) e) (hj : j < 8) (hx : x = (((listOf (addSt s t)).getD j 0 : Nat) : Int)) : HasRow (w.setCell ⟨g, j, none⟩ (.int .u32 x)) g (mixRow s t (j + 1)) e := by
  have := row_set h j (.int .u32 x)
  rw [hx, mix_set s t j hj] at this
  rw [hx]
  exact this

set_option maxRecDepth 100000 in
set_option maxHeartbeats 4000000 in
theorem implBlock_any (s : St) (g o n c : Nat) (b : ByteArray) (w : World) (hs : s.Small) (hk : KeysLaid w) (hb : b.size = 64) (hn : 64 ≤ n) (hn2 : n ≤ 1000000)
    (hcell : ∀ j (h : j < 64), w.cell? ⟨g, o + j, none⟩ = some (.int .u8 ((b[j]'(by omega)).toNat : Nat))) :
    Calls Tryd.prog 45 #[.agg #[.int .u32 (s.a : Nat), .int .u32 (s.b : Nat), .int .u32 (s.c : Nat), .int .u32 (s.d : Nat), .int .u32 (s.e : Nat), .int .u32 (s.f : Nat), .int .u32 (s.g : Nat), .int .u32 (s.h : Nat)], .slice (some ⟨g, o, none⟩) n c] w
      fun e w' => e = .returned (.agg (u32s (listOf (blockS s b))).toArray) ∧ Below w.heap.size w w' := by
  have HC : Hid (∀ j (h : j < 64), w.cell? ⟨g, o + j, none⟩ = some (.int .u8 ((b[j]'(by omega)).toNat : Nat))) := hcell
  have HB : Hid (b.size = 64) := hb
  have HS : Hid s.Small := hs
  have HK : Hid (KeysLaid w) := hk
  have HI : Hid ((Tryd.prog.info? 76).map (·.size) = some (u32s (wsOf b)).length) := by unfold Hid; rw [length_u32s, length_wsOf]; exact infoW
  have HL : Hid ((u32s (List.replicate 64 0)).length = (u32s (wsOf b)).length) := by unfold Hid; rw [length_u32s, length_u32s, length_wsOf]; rfl
  have HLT : Hid (∀ k, (wsOf b).getD k 0 < 4294967296) := fun k => wAt_lt b 64 k
  have HLW : Hid ((wsOf b).length = 64) := length_wsOf b
  have HF : Hid (∀ W, (∀ j (h : j < 64), W.cell? ⟨g, o + j, none⟩ = some (.int .u8 ((b[j]'(by omega)).toNat : Nat))) → Calls Tryd.prog 54 #[.slice (some ⟨g, o, none⟩) n c] W fun e w' => e = .returned (.agg (u32s (wsOf b)).toArray) ∧ Below W.heap.size W w') :=
    fun W h => implWords_any g o n c b W hb hn hn2 h
  obtain ⟨R, HR⟩ : ∃ R, Hid (blockS s b = R) := ⟨_, rfl⟩
  have HR2 : Hid (addSt s (rnds (wsOf b) 64 s) = R) := HR
  rw [show blockS s b = R from HR]
  clear hcell hs hk HR
  generalize wsOf b = ws at *
  go_enter Tryd.func45, Tryd.ntmps45
  go_upto_region 2 with (first
    | (go_at_call 54; refine (HF.out _ (fun j h => bel_cell (((Below.refl w.heap.size w).alloc (Nat.le_refl _) _).alloc (by simp) _) (HC.out j h))).mono ?_; rintro e w1 ⟨rfl, hb1⟩)
    | (refine row_store_wp (by rfl) 76 (.tmp 5) (.tmp 20) (by rfl) _ (by rfl) (by rfl) (row_new_at _ (u32s (List.replicate 64 0)) 76 _ rfl) HI.out HL.out (u32s_one _) ?_; intro W1 hr5 hoth hbb hsz))
  have hz1 : w.heap.size + 2 ≤ w1.heap.size := by have := hb1.size; simp at this; omega
  have hzW : W1.heap.size = w1.heap.size + 1 := by simpa using hsz
  have hrs : HasRow w1 w.heap.size (u32s (listOf s)) 66 := row_below (row_alloc (row_new w (u32s (listOf s)) 66) _) hb1 (by simp; omega)
  have hr0 : HasRow w1 (w.heap.size + 1) (u32s (List.replicate 8 0)) 66 := row_below (row_new_at (w.alloc _) (u32s (List.replicate 8 0)) 66 _ (by simp)) hb1 (by simp)
  have hrs1 : HasRow W1 w.heap.size (u32s (listOf s)) 66 := row_far (row_alloc hrs _) hoth (by omega)
  have hr01 : HasRow W1 (w.heap.size + 1) (u32s (List.replicate 8 0)) 66 := row_far (row_alloc hr0 _) hoth (by omega)
  have hbel1 : Below w.heap.size w W1 := hbb _ _ (by omega) (((((Below.refl w.heap.size w).alloc (Nat.le_refl _) _).alloc (by simp) _).trans (hb1.mono (by simp; omega))).alloc (by omega) _)
  obtain ⟨c0, c1, c2, c3, c4, c5, c6, c7⟩ := cells8 hrs1
  have HRS : Hid _ := hrs1
  have HR0 : Hid _ := hr01
  have HR5 : Hid _ := hr5
  have HBEL : Hid _ := hbel1
  clear hrs1 hr01 hr5 hbel1 hrs hr0 hoth hbb hsz hb1
  go_wp2_with fail
  go_loopw [22] (fun i wr => ∃ k : Nat, k ≤ 64 ∧ i = .int .i64 k ∧ HasRow wr w.heap.size (u32s (listOf s)) 66 ∧ HasRow wr (w.heap.size + 1) (u32s (List.replicate 8 0)) 66 ∧ HasRow wr w1.heap.size (u32s ws) 76 ∧ HasRow wr (w1.heap.size + 1) (u32s (listOf (rnds ws k s))) 66 ∧ Below w.heap.size w wr) (fun i _ => 64 - (intOf i).toNat)
  case atStart => exact ⟨0, by omega, rfl, row_alloc HRS.out _, row_alloc HR0.out _, row_alloc HR5.out _, row_new_at W1 (u32s (listOf s)) 66 _ hzW.symm, HBEL.out.alloc (by omega) _⟩
  case round =>
    clear c0 c1 c2 c3 c4 c5 c6 c7 HRS HR0 HR5 HBEL hzW
    obtain ⟨k, hk, rfl, hrs, hr0, hr5, hr6, hbel⟩ := hrel
    have HRS : Hid (HasRow wr w.heap.size (u32s (listOf s)) 66) := hrs
    have HR0 : Hid (HasRow wr (w.heap.size + 1) (u32s (List.replicate 8 0)) 66) := hr0
    have HR5 : Hid (HasRow wr w1.heap.size (u32s ws) 76) := hr5
    have HR6 : Hid (HasRow wr (w1.heap.size + 1) (u32s (listOf (rnds ws k s))) 66) := hr6
    have hsm := rnds_small (ws := ws) HS.out k
    by_cases hlt : k < 64
    · have ck := bel_cell hbel (HK.out k hlt)
      have c5 := Mem.cell_of_row hr5 k
      have hw5 : (u32s ws)[k]? = some (.int .u32 (ws.getD k 0 : Nat)) := by
        have hl := HLW.out
        simp [u32s, List.getElem?_eq_getElem (show k < ws.length by omega)]
      rw [hw5] at c5
      have HN : Hid (rnds ws (k + 1) s = rnd (keys.getD k 0) (ws.getD k 0) (rnds ws k s)) := rfl
      obtain ⟨d0, d1, d2, d3, d4, d5, d6, d7⟩ := cells8 hr6
      have hx5 : ws.getD k 0 < 4294967296 := HLT.out k
      generalize rnds ws k s = t at *
      generalize ws.getD k 0 = x5 at *
      generalize keys.getD k 0 = xk at *
      obtain ⟨ta, tb, tc, td, te, tf, tg, th⟩ := t
      simp only at d0 d1 d2 d3 d4 d5 d6 d7
      obtain ⟨s1, s2, s3, s4, s5, s6, s7, s8⟩ := hsm
      simp only at s1 s2 s3 s4 s5 s6 s7 s8
      clear hrs hr0 hr5 hr6 hw5
      go_wp2_with fail
      go_quiet (fail)
      go_wp2_with fail
      go_quiet (fail)
      go_wp2_with fail
      go_quiet ((go_at_call 55; exact (thrice1 _ _ s5).mono fun _ _ h => ⟨h.1, _, h.2⟩))
      rw [t1_raw (ta := ta) (tb := tb) (tc := tc) (td := td) s5 s6 s7]
      obtain ⟨y1, HY⟩ : ∃ y1, Hid (t1 xk x5 ⟨ta, tb, tc, td, te, tf, tg, th⟩ = y1) := ⟨_, rfl⟩
      rw [show t1 xk x5 ⟨ta, tb, tc, td, te, tf, tg, th⟩ = y1 from HY]
      have HN2 : Hid (rnds ws (k + 1) s = ⟨(y1 + t2 ⟨ta, tb, tc, td, te, tf, tg, th⟩) % 4294967296, ta, tb, tc, (td + y1) % 4294967296, te, tf, tg⟩) := by
        unfold Hid; rw [HN.out]; unfold rnd; rw [show t1 xk x5 ⟨ta, tb, tc, td, te, tf, tg, th⟩ = y1 from HY]
      have hy2 := t2_raw (td := td) (te := te) (tf := tf) (tg := tg) (th := th) s1 s2 s3
      generalize t2 ⟨ta, tb, tc, td, te, tf, tg, th⟩ = y2 at *
      clear HY HN
      have hfz : ∀ j, wr.frozen? ⟨w1.heap.size + 1, j, none⟩ = false := fun j => Mem.frozen_of_row HR6.out j
      go_wp2_with (go_at_call 55; refine (thrice0 _ _ s1).mono ?_; rintro e w' ⟨rfl, rfl⟩)
      have e8 : u32s (listOf ⟨(y1 + y2) % 4294967296, ta, tb, tc, (td + y1) % 4294967296, te, tf, tg⟩) = [.int .u32 (((y1 : Int) + (y2 : Int)) % 4294967296), .int .u32 (ta : Int), .int .u32 (tb : Int), .int .u32 (tc : Int), .int .u32 (((td : Int) + (y1 : Int)) % 4294967296), .int .u32 (te : Int), .int .u32 (tf : Int), .int .u32 (tg : Int)] := by simp [u32s, listOf]
      exact ⟨⟨k + 1, by omega, by go_num, row_other8 (row_drewN HRS.out _) (by omega) _ _ _ _ _ _ _ _, row_other8 (row_drewN HR0.out _) (by omega) _ _ _ _ _ _ _ _, row_other8 (row_drewN HR5.out _) (by omega) _ _ _ _ _ _ _ _, by rw [HN2.out, e8]; exact row_set8 (row_drewN HR6.out _) _ _ _ _ _ _ _ _, bel_set8 (bel_drewN hbel _) (by omega) _ _ _ _ _ _ _ _⟩, by simp [intOf]; omega⟩
    · have e64 : k = 64 := by omega
      subst e64
      have HT : Hid (addSt s (rnds ws 64 s) = R) := HR2
      generalize rnds ws 64 s = t at *
      clear hrs hr0 hr5 hr6 hsm hk hlt
      go_wp2_with fail
      go_loopw [90] (fun i wr => ∃ j : Nat, j ≤ 8 ∧ i = .int .i64 j ∧ HasRow wr w.heap.size (mixRow s t j) 66 ∧ HasRow wr (w.heap.size + 1) (u32s (List.replicate 8 0)) 66 ∧ HasRow wr (w1.heap.size + 1) (u32s (listOf t)) 66 ∧ Below w.heap.size w wr) (fun i _ => 8 - (intOf i).toNat)
      case atStart => exact ⟨0, by omega, rfl, HRS.out, HR0.out, HR6.out, hbel⟩
      case round =>
        clear HRS HR0 HR5 HR6 hbel
        obtain ⟨j, hj, rfl, hrs, hr0, hr6, hbel⟩ := hrel
        have HRS : Hid (HasRow wr w.heap.size (mixRow s t j) 66) := hrs
        have HR0 : Hid (HasRow wr (w.heap.size + 1) (u32s (List.replicate 8 0)) 66) := hr0
        have HR6 : Hid (HasRow wr (w1.heap.size + 1) (u32s (listOf t)) 66) := hr6
        by_cases hlt : j < 8
        · have c1 := Mem.cell_of_row hrs j
          rw [mix_cell s t j hlt] at c1
          have c2 := Mem.cell_of_row hr6 j
          rw [st_cell t j hlt] at c2
          have hfz := Mem.frozen_of_row hrs j
          have HA : Hid _ := add_at s t j hlt
          generalize (listOf s).getD j 0 = x1 at *
          generalize (listOf t).getD j 0 = x2 at *
          clear hrs hr0 hr6
          go_wp2_with fail
          go_region
          go_wp2_with fail
          exact ⟨⟨j + 1, by omega, by go_num, mix_fill HRS.out hlt (by rw [HA.out]; omega), row_other HR0.out _ _ (by simp), row_other HR6.out _ _ (by simp; omega), (hbel.setCell (p := ⟨w.heap.size, j, none⟩) (Nat.le_refl _) _).drew⟩, by simp [intOf]; omega⟩
        · have e8 : j = 8 := by omega
          subst e8
          have HRE : Hid (HasRow wr w.heap.size (u32s (listOf R)) 66) := by
            have := HRS.out
            rw [show mixRow s t 8 = u32s (listOf (addSt s t)) from rfl, HT.out] at this
            exact this
          clear hrs hr0 hr6 HRS HR6 hj hlt
          go_upto_region 17 with fail
          refine wp_region_lit ?_
          refine row_load_wp rfl _ _ (by rfl) _ (by rfl) HRE.out underS8 infoS ?_
          refine row_store_wp (cs' := u32s (listOf R)) rfl _ _ _ (by rfl) _ (by rfl) (by rfl) HR0.out infoS (by rfl) (u32s_one _) ?_
          intro W' hr' _ hbb _
          refine wpList_nil ?_
          have hl2 := load_row (P := Tryd.prog) hr' underS8 infoS
          have HB2 : Hid (Below w.heap.size w W') := hbb _ _ (by omega) hbel
          clear hr' hbb hbel HRE HR0
          go_wp2_with fail
          exact bodyPost_ret (v := .agg (u32s (listOf R)).toArray) (results_cell Tryd.results45 rfl hl2) rfl ⟨rfl, HB2.out⟩
end Go.Proofs.YtjgkekgieodhnabDoor.Sha
