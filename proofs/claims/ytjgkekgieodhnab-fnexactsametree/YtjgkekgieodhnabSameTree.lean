/- What SameTree answers, on both sides. -/
import Derived.Test.YtjgkekgieodhnabImplTree2
import Derived.Test.YtjgkekgieodhnabCutCall
import Derived.Laws.StructEq
namespace Go.Proofs.Ytjgkekgieodhnab.Tre
open Go.RowKit Go.Proofs.Ytjgkekgieodhnab.Mem Go.Proofs.Ytjgkekgieodhnab.Gf Go.Proofs.Ytjgkekgieodhnab.Harn Go.Proofs.Ytjgkekgieodhnab.Mark

def sameF (f g : Fl) : Bool := f.p.toList == g.p.toList && f.m == g.m && f.d.toList == g.d.toList
def sameL (l l2 : List Fl) : Bool := decide (l.length = l2.length) && decide (∀ i (h : i < l.length) (h2 : i < l2.length), sameF l[i] l2[i] = true)
theorem sameL_len {l l2 : List Fl} (h : ¬ l.length = l2.length) : sameL l l2 = false := by unfold sameL; simp [h]
theorem sameL_bad {l l2 : List Fl} (i : Nat) (h : i < l.length) (h2 : i < l2.length) (hb : sameF l[i] l2[i] = false) : sameL l l2 = false := by
  unfold sameL
  rw [Bool.and_eq_false_iff]
  refine .inr (decide_eq_false fun h3 => ?_)
  rw [h3 i h h2] at hb; cases hb
theorem sameL_ok {l l2 : List Fl} (h : l.length = l2.length) (h2 : ∀ i (h : i < l.length) (h2 : i < l2.length), sameF l[i] l2[i] = true) : sameL l l2 = true := by
  unfold sameL; rw [decide_eq_true h, decide_eq_true h2]; rfl

theorem neq_run (f g : Fl) : ∀ W, (binOp BinOp.neq 36 (.agg #[.string f.p, .int .i64 f.m, .string f.d]) (.agg #[.string g.p, .int .i64 g.m, .string g.d])).run Try.prog W = .ok (.bool (!sameF f g)) W := fun W => by
  have u0 : Try.prog.underlying 9 = some .string := by kernel_rfl
  have u1 : Try.prog.underlying 2 = some (.int .i64) := by kernel_rfl
  have uf : Try.prog.underlying 36 = some (.struct (Try.prog.fieldsOf 36)) := by kernel_rfl
  have hp : Try.prog.stoodInHeld 36 = false := by kernel_rfl
  have hm : (Try.prog.fieldsOf 36).toList.map (fun f => (f.name, f.type, f.offset)) = [("Path", 9, 0), ("Mode", 2, 1), ("Data", 9, 2)] := by kernel_rfl
  rw [run_neq_struct, run_equalIn_agg _ _ _ _ _ uf hp]
  generalize (Try.prog.fieldsOf 36).toList = fs at *
  obtain ⟨a0, f1, rfl, e0, h1⟩ := List.map_eq_cons_iff.1 hm
  obtain ⟨a1, f2, rfl, e1, h2⟩ := List.map_eq_cons_iff.1 h1
  obtain ⟨a2, f3, rfl, e2, h3⟩ := List.map_eq_cons_iff.1 h2
  obtain rfl : f3 = [] := by simpa using h3
  simp only [Prod.mk.injEq] at e0 e1 e2
  obtain ⟨n0, t0, o0⟩ := e0
  obtain ⟨n1, t1, o1⟩ := e1
  obtain ⟨n2, t2, o2⟩ := e2
  have es : ∀ (a b : ByteArray) (W : World), (Op.equalIn 9999 9 (.string a) (.string b)).run Try.prog W = .ok (a.toList == b.toList) W := fun a b W => run_equalIn_string W 9998 _ a b u0
  have ei : ∀ (a b : Int) (W : World), (Op.equalIn 9999 2 (.int .i64 a) (.int .i64 b)).run Try.prog W = .ok (a == b) W := fun a b W => run_equalIn_int W 9998 _ .i64 .i64 a b u1
  unfold sameF
  simp [Op.eqFields, n0, n1, n2, t0, t1, t2, o0, o1, o2, part, es, ei, Result.andThen]
  cases h1 : (f.p.toList == g.p.toList) <;> cases h2 : (f.m == g.m) <;> cases h3 : (f.d.toList == g.d.toList) <;> simp_all
set_option maxRecDepth 100000 in
set_option maxHeartbeats 1000000 in
theorem specSame_any (v v2 : Value) (l l2 : List Fl) (w : World) (h : Files w v l) (h2 : Files w v2 l2) (hn : l.length ≤ maxLen) :
    Calls Try.prog 11 #[.agg #[v], .agg #[v2]] w fun e w' => e = .returned (.bool (sameL l l2)) ∧ Below w.heap.size w w' := by
  obtain ⟨a, cap, rfl, hc⟩ := h
  obtain ⟨a2, cap2, rfl, hc2⟩ := h2
  unfold maxLen at hn
  have HC : Hid (RC w a l) := hc
  have HC2 : Hid (RC w a2 l2) := hc2
  clear hc hc2
  by_cases hlen : l.length = l2.length
  · have hl' : (((l.length : Nat) : Int) != ((l2.length : Nat) : Int)) = false := bne_eq_false_iff_eq.2 (by omega)
    have HLEN := hidT hlen
    clear hlen
    go_enter Try.func11, Try.ntmps11
    go_wp2
    go_loopw [5] (fun i wr => ∃ k : Nat, k ≤ l.length ∧ i = .int .i64 k ∧ Below w.heap.size w wr ∧ wr.cell? ⟨w.heap.size, 0, none⟩ = some (.slice a l.length cap) ∧ wr.cell? ⟨w.heap.size + 1, 0, none⟩ = some (.slice a2 l2.length cap2) ∧ Hid (∀ j (h : j < l.length) (h2 : j < l2.length), j < k → sameF l[j] l2[j] = true)) (fun i _ => l.length - (intOf i).toNat)
    case atStart => exact ⟨0, Nat.zero_le _, rfl, ((Below.refl _ _).alloc (Nat.le_refl _) _).alloc (by simp) _, by simp [World.cell?_alloc_lt], by simp, fun j h _ h2 => absurd h2 (Nat.not_lt_zero j)⟩
    case round =>
      obtain ⟨k, hk, rfl, hbel, hx1, hx2, HK⟩ := hrel
      by_cases hlt : k < l.length
      · have hlt2 : k < l2.length := by have := HLEN.out; omega
        obtain ⟨b, o, rfl, d1, d2, d3⟩ := HC.out k hlt
        obtain ⟨b2, o2, rfl, d4, d5, d6⟩ := HC2.out k hlt2
        have c1 : wr.cell? ⟨b, o + k * 3, none⟩ = _ := (hbel.cell (World.block_lt_of_cell? w _ d1)).trans d1
        have c2 : wr.cell? ⟨b, o + k * 3 + 1, none⟩ = _ := (hbel.cell (World.block_lt_of_cell? w _ d2)).trans d2
        have c3 : wr.cell? ⟨b, o + k * 3 + 2, none⟩ = _ := (hbel.cell (World.block_lt_of_cell? w _ d3)).trans d3
        have c4 : wr.cell? ⟨b2, o2 + k * 3, none⟩ = _ := (hbel.cell (World.block_lt_of_cell? w _ d4)).trans d4
        have c5 : wr.cell? ⟨b2, o2 + k * 3 + 1, none⟩ = _ := (hbel.cell (World.block_lt_of_cell? w _ d5)).trans d5
        have c6 : wr.cell? ⟨b2, o2 + k * 3 + 2, none⟩ = _ := (hbel.cell (World.block_lt_of_cell? w _ d6)).trans d6
        have p1 : (k : Int) < (l.length : Int) := by omega
        have p2 : (k : Int) < (l2.length : Int) := by omega
        have p0 : (0 : Int) ≤ (k : Int) := by omega
        have hneq := neq_run l[k] l2[k]
        have HK2 : Hid (sameF l[k] l2[k] = true → ∀ j (h : j < l.length) (h2 : j < l2.length), j < k + 1 → sameF l[j] l2[j] = true) := fun h0 j hj hj2 hjk => by
          by_cases e : j = k
          · subst e; exact h0
          · exact HK.out j hj hj2 (by omega)
        have HBAD : Hid (sameF l[k] l2[k] = false → sameL l l2 = false) := fun h0 => sameL_bad k hlt hlt2 h0
        generalize sameF l[k] l2[k] = z at *
        generalize l[k].p = x1 at *
        generalize l[k].m = x2 at *
        generalize l[k].d = x3 at *
        generalize l2[k].p = y1 at *
        generalize l2[k].m = y2 at *
        generalize l2[k].d = y3 at *
        clear d1 d2 d3 d4 d5 d6
        have HB := hidT hbel
        clear hbel
        cases z
        · have HN := hidT (HBAD.out rfl)
          clear HBAD HK2
          go_wp2_with fail
          go_region
          go_wp2
          go_ret
          exact ⟨by rw [HN.out]; rfl, Sha.bel_drewN HB.out 1⟩
        · have HK3 := hidT (HK2.out rfl)
          clear HBAD HK2
          go_wp2_with fail
          go_region
          go_wp2
          exact ⟨⟨k + 1, by omega, by go_num, Sha.bel_drewN HB.out 1, hx1, hx2, HK3⟩, by simp [intOf]; omega⟩
      · obtain rfl : k = l.length := by omega
        have HS := hidT (sameL_ok HLEN.out fun j hj hj2 => HK.out j hj hj2 hj)
        have HB := hidT hbel
        clear hbel HK
        go_wp2
        go_ret
        exact ⟨by rw [HS.out]; rfl, HB.out⟩
  · rw [sameL_len hlen]
    have hl' : (((l.length : Nat) : Int) != ((l2.length : Nat) : Int)) = true := bne_iff_ne.2 (by omega)
    go_enter Try.func11, Try.ntmps11
    go_wp2
    go_ret
    exact ⟨rfl, ((Below.refl _ _).alloc (Nat.le_refl _) _).alloc (by simp) _⟩
set_option maxRecDepth 100000 in
set_option maxHeartbeats 1000000 in
theorem implSame_any (v v2 : Value) (l l2 : List Fl) (w : World) (h : Files w v l) (h2 : Files w v2 l2) (hn : l.length ≤ maxLen) (hn2 : l2.length ≤ maxLen) (hs : ∀ y ∈ l, y.p.size ≤ maxLen ∧ y.d.size ≤ maxLen) (hs2 : ∀ y ∈ l2, y.p.size ≤ maxLen ∧ y.d.size ≤ maxLen) (hcap : ∀ a n c, v = .slice a n c → n ≤ c) (hcap2 : ∀ a n c, v2 = .slice a n c → n ≤ c) :
    Calls Try.prog 7 #[.agg #[v], .agg #[v2]] w fun e w' => e = .returned (.bool (treeR l && treeR l2 && sameL l l2)) ∧ Below w.heap.size w w' := by
  have K1 : Hid (∀ W, Files W v l → Calls Try.prog 13 #[.agg #[v]] W fun e w' => e = .returned (.bool (treeR l)) ∧ Below W.heap.size W w') := fun W hW => implTR_any v l W hW hn hs hcap
  have K2 : Hid (∀ W, Files W v2 l2 → Calls Try.prog 13 #[.agg #[v2]] W fun e w' => e = .returned (.bool (treeR l2)) ∧ Below W.heap.size W w') := fun W hW => implTR_any v2 l2 W hW hn2 hs2 hcap2
  have HF := hidT h
  have HF2 := hidT h2
  unfold maxLen at hn hn2
  clear h h2 hs hs2 hcap hcap2
  generalize treeR l = z1 at *
  generalize treeR l2 = z2 at *
  have hB0 : Below w.heap.size w ((w.alloc (.cells #[v] 29)).alloc (.cells #[v2] 29)) := ((Below.refl _ _).alloc (Nat.le_refl _) _).alloc (by simp) _
  have h0 : ((w.alloc (.cells #[v] 29)).alloc (.cells #[v2] 29)).cell? ⟨w.heap.size, 0, none⟩ = some v := by simp [World.cell?_alloc_lt]
  have h1 : ((w.alloc (.cells #[v] 29)).alloc (.cells #[v2] 29)).cell? ⟨w.heap.size + 1, 0, none⟩ = some v2 := by simp
  go_enter Try.func7, Try.ntmps7
  obtain ⟨W0, hW0⟩ : ∃ W0, W0 = (w.alloc (.cells #[v] 29)).alloc (.cells #[v2] 29) := ⟨_, rfl⟩
  go_wp2_with fail
  rw [← hW0] at hB0 h0 h1 ⊢
  clear hW0
  refine (K1.out _ (Files.below HF.out hB0)).mono ?_
  rintro e w1 ⟨rfl, hb1⟩
  have l0 := World.block_lt_of_cell? W0 _ h0
  have l1 := World.block_lt_of_cell? W0 _ h1
  simp only at l0 l1
  have h3 := (hb1.cell (p := ⟨w.heap.size, 0, none⟩) l0).trans h0
  have h4 := (hb1.cell (p := ⟨w.heap.size + 1, 0, none⟩) l1).trans h1
  have HB1 := hidT (hB0.trans (hb1.mono hB0.size))
  clear h0 h1 hB0 hb1 l0 l1
  cases z1
  · go_wp2
    go_ret
    exact ⟨rfl, HB1.out⟩
  · go_wp2_with fail
    refine (K2.out _ (Files.below HF2.out HB1.out)).mono ?_
    rintro e w2 ⟨rfl, hb2⟩
    have l0 := World.block_lt_of_cell? w1 _ h3
    have l1 := World.block_lt_of_cell? w1 _ h4
    simp only at l0 l1
    have h5 := (hb2.cell (p := ⟨w.heap.size, 0, none⟩) l0).trans h3
    have h6 := (hb2.cell (p := ⟨w.heap.size + 1, 0, none⟩) l1).trans h4
    have HB2 := hidT (HB1.out.trans (hb2.mono HB1.out.size))
    clear h3 h4 hb2 l0 l1 HB1 K1 K2
    cases z2
    · go_wp2
      go_ret
      exact ⟨rfl, HB2.out⟩
    · obtain ⟨a, cap, rfl, hc⟩ := HF.out
      obtain ⟨a2, cap2, rfl, hc2⟩ := HF2.out
      have HC : Hid (RC w a l) := hc
      have HC2 : Hid (RC w a2 l2) := hc2
      clear hc hc2 HF HF2
      by_cases hlen : l.length = l2.length
      · have hl' : (((l.length : Nat) : Int) != ((l2.length : Nat) : Int)) = false := bne_eq_false_iff_eq.2 (by omega)
        have HLEN := hidT hlen
        clear hlen
        go_wp2
        go_loopw [27] (fun i wr => ∃ k : Nat, k ≤ l.length ∧ i = .int .i64 k ∧ Below w.heap.size w wr ∧ wr.cell? ⟨w.heap.size + 1, 0, none⟩ = some (.slice a2 l2.length cap2) ∧ Hid (∀ j (h : j < l.length) (h2 : j < l2.length), j < k → sameF l[j] l2[j] = true)) (fun i _ => l.length - (intOf i).toNat)
        case atStart => exact ⟨0, Nat.zero_le _, rfl, HB2.out, h6, fun j h _ h2 => absurd h2 (Nat.not_lt_zero j)⟩
        case round =>
          clear h5 h6
          obtain ⟨k, hk, rfl, hbel, hx2, HK⟩ := hrel
          by_cases hlt : k < l.length
          · have hlt2 : k < l2.length := by have := HLEN.out; omega
            obtain ⟨b, o, rfl, d1, d2, d3⟩ := HC.out k hlt
            obtain ⟨b2, o2, rfl, d4, d5, d6⟩ := HC2.out k hlt2
            have c1 : wr.cell? ⟨b, o + k * 3, none⟩ = _ := (hbel.cell (World.block_lt_of_cell? w _ d1)).trans d1
            have c2 : wr.cell? ⟨b, o + k * 3 + 1, none⟩ = _ := (hbel.cell (World.block_lt_of_cell? w _ d2)).trans d2
            have c3 : wr.cell? ⟨b, o + k * 3 + 2, none⟩ = _ := (hbel.cell (World.block_lt_of_cell? w _ d3)).trans d3
            have c4 : wr.cell? ⟨b2, o2 + k * 3, none⟩ = _ := (hbel.cell (World.block_lt_of_cell? w _ d4)).trans d4
            have c5 : wr.cell? ⟨b2, o2 + k * 3 + 1, none⟩ = _ := (hbel.cell (World.block_lt_of_cell? w _ d5)).trans d5
            have c6 : wr.cell? ⟨b2, o2 + k * 3 + 2, none⟩ = _ := (hbel.cell (World.block_lt_of_cell? w _ d6)).trans d6
            have g1 := World.block_lt_of_cell? wr _ c1
            have g2 := World.block_lt_of_cell? wr _ c4
            have g3 := World.block_lt_of_cell? wr _ hx2
            simp only at g1 g2 g3
            have p1 : (k : Int) < (l.length : Int) := by omega
            have p2 : (k : Int) < (l2.length : Int) := by omega
            have p0 : (0 : Int) ≤ (k : Int) := by omega
            have hneq := neq_run l[k] l2[k]
            have HK2 : Hid (sameF l[k] l2[k] = true → ∀ j (h : j < l.length) (h2 : j < l2.length), j < k + 1 → sameF l[j] l2[j] = true) := fun h0 j hj hj2 hjk => by
              by_cases e : j = k
              · subst e; exact h0
              · exact HK.out j hj hj2 (by omega)
            have HBAD : Hid (sameF l[k] l2[k] = false → sameL l l2 = false) := fun h0 => sameL_bad k hlt hlt2 h0
            generalize sameF l[k] l2[k] = z at *
            generalize l[k].p = x1 at *
            generalize l[k].m = x2 at *
            generalize l[k].d = x3 at *
            generalize l2[k].p = y1 at *
            generalize l2[k].m = y2 at *
            generalize l2[k].d = y3 at *
            clear d1 d2 d3 d4 d5 d6
            have hzz := hbel.size
            have HB := hidT (hbel.alloc hzz (.cells #[.string x1, .int .i64 x2, .string x3] 36))
            clear hbel
            cases z
            · have HN := hidT (HBAD.out rfl)
              clear HBAD HK2
              go_wp2_with fail
              go_region
              go_wp2
              go_ret
              exact ⟨by rw [HN.out]; rfl, Sha.bel_drewN HB.out 1⟩
            · have HK3 := hidT (HK2.out rfl)
              clear HBAD HK2
              go_wp2_with fail
              go_region
              go_wp2
              exact ⟨⟨k + 1, by omega, by go_num, Sha.bel_drewN HB.out 1, (World.cell?_alloc_lt wr _ _ g3).trans hx2, HK3⟩, by simp [intOf]; omega⟩
          · obtain rfl : k = l.length := by omega
            have HS := hidT (sameL_ok HLEN.out fun j hj hj2 => HK.out j hj hj2 hj)
            have HB := hidT hbel
            clear hbel HK
            go_wp2
            go_ret
            exact ⟨by rw [HS.out]; rfl, HB.out⟩
      · have HN := hidT (sameL_len hlen)
        have hl' : (((l.length : Nat) : Int) != ((l2.length : Nat) : Int)) = true := bne_iff_ne.2 (by omega)
        clear hlen
        go_wp2
        go_ret
        exact ⟨by rw [HN.out]; rfl, HB2.out⟩
set_option maxRecDepth 100000 in
set_option maxHeartbeats 1000000 in
theorem specST_any (v v2 : Value) (l l2 : List Fl) (w : World) (h : Files w v l) (h2 : Files w v2 l2) (hn : l.length ≤ maxLen) (hn2 : l2.length ≤ maxLen) (hs : ∀ y ∈ l, y.p.size ≤ maxLen ∧ y.d.size ≤ maxLen) (hs2 : ∀ y ∈ l2, y.p.size ≤ maxLen ∧ y.d.size ≤ maxLen) :
    Calls Try.prog 5 #[.agg #[v], .agg #[v2]] w fun e w' => e = .returned (.bool (treeR l && treeR l2 && sameL l l2)) ∧ Below w.heap.size w w' := by
  have K1 : Hid (∀ W, Files W v l → Calls Try.prog 10 #[.agg #[v]] W fun e w' => e = .returned (.bool (treeR l)) ∧ Below W.heap.size W w') := fun W hW => specTR_any v l W hW hn hs
  have K2 : Hid (∀ W, Files W v2 l2 → Calls Try.prog 10 #[.agg #[v2]] W fun e w' => e = .returned (.bool (treeR l2)) ∧ Below W.heap.size W w') := fun W hW => specTR_any v2 l2 W hW hn2 hs2
  have K3 : Hid (∀ W, Files W v l → Files W v2 l2 → Calls Try.prog 11 #[.agg #[v], .agg #[v2]] W fun e w' => e = .returned (.bool (sameL l l2)) ∧ Below W.heap.size W w') := fun W hW hW2 => specSame_any v v2 l l2 W hW hW2 hn
  have HF := hidT h
  have HF2 := hidT h2
  clear h h2 hs hs2 hn hn2
  generalize treeR l = z1 at *
  generalize treeR l2 = z2 at *
  generalize sameL l l2 = z3 at *
  have hB0 : Below w.heap.size w ((w.alloc (.cells #[v] 29)).alloc (.cells #[v2] 29)) := ((Below.refl _ _).alloc (Nat.le_refl _) _).alloc (by simp) _
  have h0 : ((w.alloc (.cells #[v] 29)).alloc (.cells #[v2] 29)).cell? ⟨w.heap.size, 0, none⟩ = some v := by simp [World.cell?_alloc_lt]
  have h1 : ((w.alloc (.cells #[v] 29)).alloc (.cells #[v2] 29)).cell? ⟨w.heap.size + 1, 0, none⟩ = some v2 := by simp
  go_enter Try.func5, Try.ntmps5
  obtain ⟨W0, hW0⟩ : ∃ W0, W0 = (w.alloc (.cells #[v] 29)).alloc (.cells #[v2] 29) := ⟨_, rfl⟩
  go_wp2_with fail
  rw [← hW0] at hB0 h0 h1 ⊢
  clear hW0
  refine (K1.out _ (Files.below HF.out hB0)).mono ?_
  rintro e w1 ⟨rfl, hb1⟩
  have l0 := World.block_lt_of_cell? W0 _ h0
  have l1 := World.block_lt_of_cell? W0 _ h1
  simp only at l0 l1
  have h3 := (hb1.cell (p := ⟨w.heap.size, 0, none⟩) l0).trans h0
  have h4 := (hb1.cell (p := ⟨w.heap.size + 1, 0, none⟩) l1).trans h1
  have HB1 := hidT (hB0.trans (hb1.mono hB0.size))
  clear h0 h1 hB0 hb1 l0 l1
  cases z1
  · go_wp2
    go_ret
    exact ⟨rfl, HB1.out⟩
  · go_wp2_with fail
    refine (K2.out _ (Files.below HF2.out HB1.out)).mono ?_
    rintro e w2 ⟨rfl, hb2⟩
    have l0 := World.block_lt_of_cell? w1 _ h3
    have l1 := World.block_lt_of_cell? w1 _ h4
    simp only at l0 l1
    have h5 := (hb2.cell (p := ⟨w.heap.size, 0, none⟩) l0).trans h3
    have h6 := (hb2.cell (p := ⟨w.heap.size + 1, 0, none⟩) l1).trans h4
    have HB2 := hidT (HB1.out.trans (hb2.mono HB1.out.size))
    clear h3 h4 hb2 l0 l1 HB1 K1 K2
    cases z2
    · go_wp2
      go_ret
      exact ⟨rfl, HB2.out⟩
    · go_wp2_with fail
      refine (K3.out _ (Files.below HF.out HB2.out) (Files.below HF2.out HB2.out)).mono ?_
      rintro e w3 ⟨rfl, hb3⟩
      have HB3 := hidT (bstep HB2.out hb3)
      clear hb3 HB2
      go_wp2
      go_ret
      exact ⟨rfl, HB3.out⟩
end Go.Proofs.Ytjgkekgieodhnab.Tre
