/- The law on SameTree. -/
import Derived.Test.YtjgkekgieodhnabSameTree
import Derived.Test.YtjgkekgieodhnabOpenTree
import Derived.Deep.RegionHeld3
import Derived.Test.YtjgkekgieodhnabCutCall
namespace Go.Proofs.Ytjgkekgieodhnab.Tre
open Go.RowKit Go.Proofs.Ytjgkekgieodhnab.Mem Go.Proofs.Ytjgkekgieodhnab.Gf Go.Proofs.Ytjgkekgieodhnab.Harn Go.Proofs.Ytjgkekgieodhnab.Mark

theorem okF_sizes {l : List Fl} (hz : ∀ y ∈ l, okF y) : ∀ y ∈ l, y.p.size ≤ maxLen ∧ y.d.size ≤ maxLen := fun y hy => ⟨(hz y hy).1, (hz y hy).2.1⟩
theorem cap_self {g o n : Nat} : ∀ a m c, (Value.slice (some ⟨g, o, none⟩) n n) = .slice a m c → m ≤ c := fun a m c e => by injection e; omega
set_option maxRecDepth 100000 in
set_option maxHeartbeats 1000000 in
theorem sameTree_law (u : Value) (l : List Fl) (u2 : Value) (l2 : List Fl) (w : World) (h : Files w u l) (hn : l.length ≤ maxLen) (hz : ∀ y ∈ l, okF y) (h2 : Files w u2 l2) (hn2 : l2.length ≤ maxLen) (hz2 : ∀ y ∈ l2, okF y) :
    Calls Try.prog 3 #[.agg #[u], .agg #[u2]] w fun e w' => e = .returned (.bool true) ∧ Below w.heap.size w w' := by
  have KZ : Hid (∀ W, Files W u l → Calls Try.prog 4 #[.agg #[u], .int .i64 1048576] W fun e w' => Below W.heap.size W w' ∧ ((∃ r : Nat, e = .returned (.int .i64 (r : Int)) ∧ r + l.length + wtF l = 1048576) ∨ (e = .returned (.int .i64 (-1)) ∧ 1048576 < l.length + wtF l))) := fun W hW => szTree_any u l 1048576 W hW hn (by omega) (okF_sizes hz)
  have KZ2 : Hid (∀ r : Nat, r ≤ 1048576 → ∀ W, Files W u2 l2 → Calls Try.prog 4 #[.agg #[u2], .int .i64 (r : Int)] W fun e w' => Below W.heap.size W w' ∧ ((∃ r2 : Nat, e = .returned (.int .i64 (r2 : Int)) ∧ r2 + l2.length + wtF l2 = r) ∨ (e = .returned (.int .i64 (-1)) ∧ r < l2.length + wtF l2))) := fun r hr W hW => szTree_any u2 l2 r W hW hn2 (by omega) (okF_sizes hz2)
  have KT : Hid (l.length ≤ 1100000 → ∀ W, Files W u l → Calls Try.prog 6 #[.agg #[u]] W fun e w' => ∃ g, e = .returned (.agg #[.slice (some ⟨g, 0, none⟩) l.length l.length]) ∧ FilesAt w' g 0 l ∧ W.heap.size ≤ g ∧ g < w'.heap.size ∧ Below W.heap.size W w') := fun h W hW => toTree_any u l W hW h
  have KT2 : Hid (l2.length ≤ 1100000 → ∀ W, Files W u2 l2 → Calls Try.prog 6 #[.agg #[u2]] W fun e w' => ∃ g, e = .returned (.agg #[.slice (some ⟨g, 0, none⟩) l2.length l2.length]) ∧ FilesAt w' g 0 l2 ∧ W.heap.size ≤ g ∧ g < w'.heap.size ∧ Below W.heap.size W w') := fun h W hW => toTree_any u2 l2 W hW h
  have KS : Hid (∀ v v2 W, Files W v l → Files W v2 l2 → Calls Try.prog 5 #[.agg #[v], .agg #[v2]] W fun e w' => e = .returned (.bool (treeR l && treeR l2 && sameL l l2)) ∧ Below W.heap.size W w') := fun v v2 W hW hW2 => specST_any v v2 l l2 W hW hW2 hn hn2 (okF_sizes hz) (okF_sizes hz2)
  have KI : Hid (∀ g g2 W, FilesAt W g 0 l → FilesAt W g2 0 l2 → Calls Try.prog 7 #[.agg #[.slice (some ⟨g, 0, none⟩) l.length l.length], .agg #[.slice (some ⟨g2, 0, none⟩) l2.length l2.length]] W fun e w' => e = .returned (.bool (treeR l && treeR l2 && sameL l l2)) ∧ Below W.heap.size W w') := fun g g2 W hW hW2 => implSame_any _ _ l l2 W (hW.files _) (hW2.files _) hn hn2 (okF_sizes hz) (okF_sizes hz2) cap_self cap_self
  have KE : Hid (l.length ≤ 1100000 → ∀ v1 v2 W, Files W v1 l → Files W v2 l → Calls Try.prog 8 #[.agg #[v1], .agg #[v2]] W fun e w' => e = .returned (.bool true) ∧ Below W.heap.size W w') := fun h v1 v2 W h1 h2 => eqTree_any v1 v2 l W h1 h2 h
  have KE2 : Hid (l2.length ≤ 1100000 → ∀ v1 v2 W, Files W v1 l2 → Files W v2 l2 → Calls Try.prog 8 #[.agg #[v1], .agg #[v2]] W fun e w' => e = .returned (.bool true) ∧ Below W.heap.size W w') := fun h v1 v2 W h1 h2 => eqTree_any v1 v2 l2 W h1 h2 h
  have HF := hidT h
  have HG := hidT h2
  generalize (treeR l && treeR l2 && sameL l l2) = z at *
  have hB0 : Below w.heap.size w ((w.alloc (.cells #[u] 24)).alloc (.cells #[u2] 24)) := ((Below.refl _ _).alloc (Nat.le_refl _) _).alloc (by simp) _
  have hq : ((w.alloc (.cells #[u] 24)).alloc (.cells #[u2] 24)).cell? ⟨w.heap.size, 0, none⟩ = some u ∧ ((w.alloc (.cells #[u] 24)).alloc (.cells #[u2] 24)).cell? ⟨w.heap.size + 1, 0, none⟩ = some u2 := ⟨by simp [World.cell?_alloc_lt], by simp⟩
  clear h hn hz h2 hn2 hz2
  go_enter Try.func3, Try.ntmps3
  obtain ⟨W0, hW0⟩ : ∃ W0, W0 = (w.alloc (.cells #[u] 24)).alloc (.cells #[u2] 24) := ⟨_, rfl⟩
  go_wp2_with fail
  rw [← hW0] at hB0 hq ⊢
  clear hW0
  refine (KZ.out _ (Files.below HF.out hB0)).mono ?_
  rintro e w1 ⟨hb1, hr⟩
  have hq1 : w1.cell? ⟨w.heap.size, 0, none⟩ = some u ∧ w1.cell? ⟨w.heap.size + 1, 0, none⟩ = some u2 := ⟨(hb1.cell (World.block_lt_of_cell? W0 _ hq.1)).trans hq.1, (hb1.cell (World.block_lt_of_cell? W0 _ hq.2)).trans hq.2⟩
  have HB1 := hidT (hB0.trans (hb1.mono hB0.size))
  clear hb1 hq hB0
  obtain ⟨hqa, hqb⟩ := hq1
  rcases hr with ⟨r, rfl, h2⟩ | ⟨rfl, h2⟩
  · have KZ2' := hidT (KZ2.out r (by omega))
    have KT' := hidT (KT.out (by omega))
    have KE' := hidT (KE.out (by omega))
    clear KT KE KZ KZ2
    have HR : Hid (r ≤ 1048576) := by unfold Hid; omega
    clear h2
    go_wp2_with fail
    refine (KZ2'.out _ (Files.below HG.out HB1.out)).mono ?_
    rintro e w2 ⟨hb2, hr2⟩
    have hq2 : w2.cell? ⟨w.heap.size, 0, none⟩ = some u ∧ w2.cell? ⟨w.heap.size + 1, 0, none⟩ = some u2 := ⟨(hb2.cell (World.block_lt_of_cell? w1 _ hqa)).trans hqa, (hb2.cell (World.block_lt_of_cell? w1 _ hqb)).trans hqb⟩
    have HB2 := hidT (HB1.out.trans (hb2.mono HB1.out.size))
    clear hb2 hqa hqb HB1
    obtain ⟨hqa, hqb⟩ := hq2
    rcases hr2 with ⟨r2, rfl, h3⟩ | ⟨rfl, h3⟩
    · have hR := HR.out
      have KT2' := hidT (KT2.out (by omega))
      have KE2' := hidT (KE2.out (by omega))
      clear KT2 KE2 hR h3 HR
      go_wp2_with fail
      go_region_held3 (fun w' => w'.cell? ⟨w.heap.size, 0, none⟩ = some u ∧ w'.cell? ⟨w.heap.size + 1, 0, none⟩ = some u2)
        (first
          | go_keep
          | (exact kS)
          | (exact kR)
          | (exact kQ))
        (first
          | (go_at_call_of 6 (Value.agg #[u]); refine (KT'.out _ (Files.below HF.out (Sha.bel_drewN HB2.out 1))).mono ?_; rintro e w3 ⟨g3, rfl, hf3, hg3, hg3', hb3⟩; have kQ : w3.cell? ⟨w.heap.size, 0, none⟩ = some u ∧ w3.cell? ⟨w.heap.size + 1, 0, none⟩ = some u2 := ⟨(hb3.cell (p := ⟨w.heap.size, 0, none⟩) (World.block_lt_of_cell? w2 _ hqa)).trans hqa, (hb3.cell (p := ⟨w.heap.size + 1, 0, none⟩) (World.block_lt_of_cell? w2 _ hqb)).trans hqb⟩; have HB3 := hidT ((Sha.bel_drewN HB2.out 1).trans (hb3.mono (Sha.bel_drewN HB2.out 1).size)); have HF3 := hidT hf3; clear hf3 hg3 hg3' hb3)
          | (go_at_call_of 6 (Value.agg #[u2]); refine (KT2'.out _ (Files.below HG.out HB3.out)).mono ?_; rintro e w4 ⟨g4, rfl, hf4, hg4, hg4', hb4⟩; have kR : w4.cell? ⟨w.heap.size, 0, none⟩ = some u ∧ w4.cell? ⟨w.heap.size + 1, 0, none⟩ = some u2 := ⟨(hb4.cell (p := ⟨w.heap.size, 0, none⟩) (World.block_lt_of_cell? w3 _ kQ.1)).trans kQ.1, (hb4.cell (p := ⟨w.heap.size + 1, 0, none⟩) (World.block_lt_of_cell? w3 _ kQ.2)).trans kQ.2⟩; have HB4 := hidT (HB3.out.trans (hb4.mono HB3.out.size)); have HF4 := hidT (FilesAt.below HF3.out hb4); have HG4 := hidT hf4; clear hf4 hg4 hg4' hb4)
          | (go_at_call 5; refine (KS.out _ _ _ (FilesAt.files HF4.out _) (FilesAt.files HG4.out _)).mono ?_; rintro e w5 ⟨rfl, hb5⟩; have kS : w5.cell? ⟨w.heap.size, 0, none⟩ = some u ∧ w5.cell? ⟨w.heap.size + 1, 0, none⟩ = some u2 := ⟨(hb5.cell (p := ⟨w.heap.size, 0, none⟩) (World.block_lt_of_cell? w4 _ kR.1)).trans kR.1, (hb5.cell (p := ⟨w.heap.size + 1, 0, none⟩) (World.block_lt_of_cell? w4 _ kR.2)).trans kR.2⟩; have HB5 := hidT (HB4.out.trans (hb5.mono HB4.out.size)); clear hb5; simp only [CutCall.shut_cut] at *))
      unfold Hid
      refine wpAnyH_take (i := 5) (v := ?_) rfl (by kernel_rfl) (by kernel_rfl) (by kernel_rfl) (fun _ _ _ h => h) (Or.inl ⟨by rfl, ?_⟩) kS ?_
      rotate_left
      · (intro w9 hS9; (try dsimp only at hS9); go_simp; (try with_reducible rfl))
      simp only [List.getElem_toArray, List.getElem_cons_succ, List.getElem_cons_zero, Act.put, List.setIfInBounds_toArray, List.set_cons_zero, List.set_cons_succ]
      refine wpAnyH_done (by kernel_rfl) ?_ _
      refine NoPanic.normal ?_
      clear HF3 HF4 HG4 HB3 HB4 kQ kR
      obtain ⟨hqa, hqb⟩ := kS
      go_wp2_with fail
      refine (KT'.out _ (Files.below HF.out HB5.out)).mono ?_
      rintro e w6 ⟨g6, rfl, hf6, hg6, hg6', hb6⟩
      have a6 : Below w6.heap.size w6 (w6.alloc (.cells #[.slice (some ⟨g6, 0, none⟩) l.length l.length] 29)) := (Below.refl _ _).alloc (Nat.le_refl _) _
      have hqa6 := (a6.cell (p := ⟨w.heap.size, 0, none⟩) (Nat.lt_of_lt_of_le (World.block_lt_of_cell? w5 _ hqa) hb6.size)).trans ((hb6.cell (p := ⟨w.heap.size, 0, none⟩) (World.block_lt_of_cell? w5 _ hqa)).trans hqa)
      have hqb6 := (a6.cell (p := ⟨w.heap.size + 1, 0, none⟩) (Nat.lt_of_lt_of_le (World.block_lt_of_cell? w5 _ hqb) hb6.size)).trans ((hb6.cell (p := ⟨w.heap.size + 1, 0, none⟩) (World.block_lt_of_cell? w5 _ hqb)).trans hqb)
      have hx06 : (w6.alloc (.cells #[.slice (some ⟨g6, 0, none⟩) l.length l.length] 29)).cell? ⟨w6.heap.size, 0, none⟩ = some (.slice (some ⟨g6, 0, none⟩) l.length l.length) := by simp
      have HB6 := hidT (bstep (bstep HB5.out hb6) a6)
      have HF6 := hidT (FilesAt.below hf6 a6)
      clear hf6 hg6 hg6' hb6 a6 hqa hqb HB5 HB2
      generalize hW7 : (w6.alloc (.cells #[.slice (some ⟨g6, 0, none⟩) l.length l.length] 29)) = W7 at *
      go_wp2_with fail
      clear hW7
      refine (KT2'.out _ (Files.below HG.out HB6.out)).mono ?_
      rintro e w8 ⟨g8, rfl, hf8, hg8, hg8', hb8⟩
      have a8 : Below w8.heap.size w8 (w8.alloc (.cells #[.slice (some ⟨g8, 0, none⟩) l2.length l2.length] 29)) := (Below.refl _ _).alloc (Nat.le_refl _) _
      have b8 : Below W7.heap.size W7 (w8.alloc (.cells #[.slice (some ⟨g8, 0, none⟩) l2.length l2.length] 29)) := bstep hb8 a8
      have q8 : (w8.alloc (.cells #[.slice (some ⟨g8, 0, none⟩) l2.length l2.length] 29)).cell? ⟨w.heap.size, 0, none⟩ = some u ∧ (w8.alloc (.cells #[.slice (some ⟨g8, 0, none⟩) l2.length l2.length] 29)).cell? ⟨w.heap.size + 1, 0, none⟩ = some u2 ∧ (w8.alloc (.cells #[.slice (some ⟨g8, 0, none⟩) l2.length l2.length] 29)).cell? ⟨w6.heap.size, 0, none⟩ = some (.slice (some ⟨g6, 0, none⟩) l.length l.length) ∧ (w8.alloc (.cells #[.slice (some ⟨g8, 0, none⟩) l2.length l2.length] 29)).cell? ⟨w8.heap.size, 0, none⟩ = some (.slice (some ⟨g8, 0, none⟩) l2.length l2.length) := ⟨(b8.cell (p := ⟨w.heap.size, 0, none⟩) (World.block_lt_of_cell? W7 _ hqa6)).trans hqa6, (b8.cell (p := ⟨w.heap.size + 1, 0, none⟩) (World.block_lt_of_cell? W7 _ hqb6)).trans hqb6, (b8.cell (p := ⟨w6.heap.size, 0, none⟩) (World.block_lt_of_cell? W7 _ hx06)).trans hx06, by simp⟩
      have HB8 := hidT (bstep HB6.out b8)
      have HF8 := hidT (FilesAt.below HF6.out b8)
      have HG8 := hidT (FilesAt.below hf8 a8)
      clear hf8 hg8 hg8' hb8 a8 b8 hqa6 hqb6 hx06 HB6 HF6
      generalize hW9 : (w8.alloc (.cells #[.slice (some ⟨g8, 0, none⟩) l2.length l2.length] 29)) = W9 at *
      obtain ⟨r1, r2, r3, r4⟩ := q8
      go_wp2_with fail
      clear hW9
      refine (KI.out _ _ _ HF8.out HG8.out).mono ?_
      rintro e w10 ⟨rfl, hb10⟩
      have q10 : w10.cell? ⟨w.heap.size, 0, none⟩ = some u ∧ w10.cell? ⟨w.heap.size + 1, 0, none⟩ = some u2 ∧ w10.cell? ⟨w6.heap.size, 0, none⟩ = some (.slice (some ⟨g6, 0, none⟩) l.length l.length) ∧ w10.cell? ⟨w8.heap.size, 0, none⟩ = some (.slice (some ⟨g8, 0, none⟩) l2.length l2.length) := ⟨(hb10.cell (p := ⟨w.heap.size, 0, none⟩) (World.block_lt_of_cell? W9 _ r1)).trans r1, (hb10.cell (p := ⟨w.heap.size + 1, 0, none⟩) (World.block_lt_of_cell? W9 _ r2)).trans r2, (hb10.cell (p := ⟨w6.heap.size, 0, none⟩) (World.block_lt_of_cell? W9 _ r3)).trans r3, (hb10.cell (p := ⟨w8.heap.size, 0, none⟩) (World.block_lt_of_cell? W9 _ r4)).trans r4⟩
      have HB10 := hidT (bstep HB8.out hb10)
      have HF10 := hidT (FilesAt.below HF8.out hb10)
      have HG10 := hidT (FilesAt.below HG8.out hb10)
      clear hb10 r1 r2 r3 r4 HB8 HF8 HG8
      obtain ⟨r1, r2, r3, r4⟩ := q10
      go_wp2_with fail
      go_region_held3 (fun w' => w'.cell? ⟨w.heap.size, 0, none⟩ = some u ∧ w'.cell? ⟨w.heap.size + 1, 0, none⟩ = some u2 ∧ w'.cell? ⟨w6.heap.size, 0, none⟩ = some (.slice (some ⟨g6, 0, none⟩) l.length l.length) ∧ w'.cell? ⟨w8.heap.size, 0, none⟩ = some (.slice (some ⟨g8, 0, none⟩) l2.length l2.length))
        (first
          | go_keep
          | (exact kR)
          | (exact kQ))
        (first
          | (go_at_call 6; refine (KT'.out _ (Files.below HF.out (Sha.bel_drewN HB10.out 1))).mono ?_; rintro e w11 ⟨g11, rfl, hf11, hg11, hg11', hb11⟩; have kQ : w11.cell? ⟨w.heap.size, 0, none⟩ = some u ∧ w11.cell? ⟨w.heap.size + 1, 0, none⟩ = some u2 ∧ w11.cell? ⟨w6.heap.size, 0, none⟩ = some (.slice (some ⟨g6, 0, none⟩) l.length l.length) ∧ w11.cell? ⟨w8.heap.size, 0, none⟩ = some (.slice (some ⟨g8, 0, none⟩) l2.length l2.length) := ⟨(hb11.cell (p := ⟨w.heap.size, 0, none⟩) (World.block_lt_of_cell? w10 _ r1)).trans r1, (hb11.cell (p := ⟨w.heap.size + 1, 0, none⟩) (World.block_lt_of_cell? w10 _ r2)).trans r2, (hb11.cell (p := ⟨w6.heap.size, 0, none⟩) (World.block_lt_of_cell? w10 _ r3)).trans r3, (hb11.cell (p := ⟨w8.heap.size, 0, none⟩) (World.block_lt_of_cell? w10 _ r4)).trans r4⟩; have d10 : Below w10.heap.size w10 w11 := Below.trans (Sha.bel_drewN (Below.refl w10.heap.size w10) 1) hb11; have HB11 := hidT (bstep HB10.out d10); have HF11 := hidT (FilesAt.below HF10.out d10); have HG11 := hidT (FilesAt.below HG10.out d10); have HN11 := hidT (FilesAt.files hf11 l.length); clear hf11 hg11 hg11' hb11 d10)
          | (go_at_call 8; refine (KE'.out _ _ _ (FilesAt.files HF11.out _) HN11.out).mono ?_; rintro e w12 ⟨rfl, hb12⟩; have kR : w12.cell? ⟨w.heap.size, 0, none⟩ = some u ∧ w12.cell? ⟨w.heap.size + 1, 0, none⟩ = some u2 ∧ w12.cell? ⟨w6.heap.size, 0, none⟩ = some (.slice (some ⟨g6, 0, none⟩) l.length l.length) ∧ w12.cell? ⟨w8.heap.size, 0, none⟩ = some (.slice (some ⟨g8, 0, none⟩) l2.length l2.length) := ⟨(hb12.cell (p := ⟨w.heap.size, 0, none⟩) (World.block_lt_of_cell? w11 _ kQ.1)).trans kQ.1, (hb12.cell (p := ⟨w.heap.size + 1, 0, none⟩) (World.block_lt_of_cell? w11 _ kQ.2.1)).trans kQ.2.1, (hb12.cell (p := ⟨w6.heap.size, 0, none⟩) (World.block_lt_of_cell? w11 _ kQ.2.2.1)).trans kQ.2.2.1, (hb12.cell (p := ⟨w8.heap.size, 0, none⟩) (World.block_lt_of_cell? w11 _ kQ.2.2.2)).trans kQ.2.2.2⟩; have HB12 := hidT (bstep HB11.out hb12); have HG12 := hidT (FilesAt.below HG11.out hb12); clear hb12; simp only [CutCall.shut_cut] at *))
      unfold Hid
      refine wpAnyH_take (i := 4) (v := ?_) rfl (by kernel_rfl) (by kernel_rfl) (by kernel_rfl) (fun _ _ _ h => h) (Or.inl ⟨by rfl, ?_⟩) kR ?_
      rotate_left
      · (intro w9 hS9; (try dsimp only at hS9); go_simp; (try with_reducible rfl))
      simp only [List.getElem_toArray, List.getElem_cons_succ, List.getElem_cons_zero, Act.put, List.setIfInBounds_toArray, List.set_cons_zero, List.set_cons_succ]
      refine wpAnyH_done (by kernel_rfl) ?_ _
      refine NoPanic.normal ?_
      clear kQ HB11 HF11 HG11 HN11 r1 r2 r3 r4 HB10 HF10 HG10
      obtain ⟨r1, r2, r3, r4⟩ := kR
      go_wp2_with fail
      go_region_held3 (fun w' => w'.cell? ⟨w.heap.size, 0, none⟩ = some u ∧ w'.cell? ⟨w.heap.size + 1, 0, none⟩ = some u2 ∧ w'.cell? ⟨w6.heap.size, 0, none⟩ = some (.slice (some ⟨g6, 0, none⟩) l.length l.length) ∧ w'.cell? ⟨w8.heap.size, 0, none⟩ = some (.slice (some ⟨g8, 0, none⟩) l2.length l2.length))
        (first
          | go_keep
          | (exact kR)
          | (exact kQ))
        (first
          | (go_at_call 6; refine (KT2'.out _ (Files.below HG.out (Sha.bel_drewN HB12.out 1))).mono ?_; rintro e w13 ⟨g13, rfl, hf13, hg13, hg13', hb13⟩; have kQ : w13.cell? ⟨w.heap.size, 0, none⟩ = some u ∧ w13.cell? ⟨w.heap.size + 1, 0, none⟩ = some u2 ∧ w13.cell? ⟨w6.heap.size, 0, none⟩ = some (.slice (some ⟨g6, 0, none⟩) l.length l.length) ∧ w13.cell? ⟨w8.heap.size, 0, none⟩ = some (.slice (some ⟨g8, 0, none⟩) l2.length l2.length) := ⟨(hb13.cell (p := ⟨w.heap.size, 0, none⟩) (World.block_lt_of_cell? w12 _ r1)).trans r1, (hb13.cell (p := ⟨w.heap.size + 1, 0, none⟩) (World.block_lt_of_cell? w12 _ r2)).trans r2, (hb13.cell (p := ⟨w6.heap.size, 0, none⟩) (World.block_lt_of_cell? w12 _ r3)).trans r3, (hb13.cell (p := ⟨w8.heap.size, 0, none⟩) (World.block_lt_of_cell? w12 _ r4)).trans r4⟩; have d12 : Below w12.heap.size w12 w13 := Below.trans (Sha.bel_drewN (Below.refl w12.heap.size w12) 1) hb13; have HB13 := hidT (bstep HB12.out d12); have HG13 := hidT (FilesAt.below HG12.out d12); have HN13 := hidT (FilesAt.files hf13 l2.length); clear hf13 hg13 hg13' hb13 d12)
          | (go_at_call 8; refine (KE2'.out _ _ _ (FilesAt.files HG13.out _) HN13.out).mono ?_; rintro e w14 ⟨rfl, hb14⟩; have kR : w14.cell? ⟨w.heap.size, 0, none⟩ = some u ∧ w14.cell? ⟨w.heap.size + 1, 0, none⟩ = some u2 ∧ w14.cell? ⟨w6.heap.size, 0, none⟩ = some (.slice (some ⟨g6, 0, none⟩) l.length l.length) ∧ w14.cell? ⟨w8.heap.size, 0, none⟩ = some (.slice (some ⟨g8, 0, none⟩) l2.length l2.length) := ⟨(hb14.cell (p := ⟨w.heap.size, 0, none⟩) (World.block_lt_of_cell? w13 _ kQ.1)).trans kQ.1, (hb14.cell (p := ⟨w.heap.size + 1, 0, none⟩) (World.block_lt_of_cell? w13 _ kQ.2.1)).trans kQ.2.1, (hb14.cell (p := ⟨w6.heap.size, 0, none⟩) (World.block_lt_of_cell? w13 _ kQ.2.2.1)).trans kQ.2.2.1, (hb14.cell (p := ⟨w8.heap.size, 0, none⟩) (World.block_lt_of_cell? w13 _ kQ.2.2.2)).trans kQ.2.2.2⟩; have HB14 := hidT (bstep HB13.out hb14); clear hb14; simp only [CutCall.shut_cut] at *))
      unfold Hid
      refine wpAnyH_take (i := 4) (v := ?_) rfl (by kernel_rfl) (by kernel_rfl) (by kernel_rfl) (fun _ _ _ h => h) (Or.inl ⟨by rfl, ?_⟩) kR ?_
      rotate_left
      · (intro w9 hS9; (try dsimp only at hS9); go_simp; (try with_reducible rfl))
      simp only [List.getElem_toArray, List.getElem_cons_succ, List.getElem_cons_zero, Act.put, List.setIfInBounds_toArray, List.set_cons_zero, List.set_cons_succ]
      refine wpAnyH_done (by kernel_rfl) ?_ _
      refine NoPanic.normal ?_
      go_wp2
      go_ret
      exact ⟨rfl, HB14.out⟩
    · go_wp2
      go_ret
      exact ⟨rfl, HB2.out⟩
  · go_wp2
    go_ret
    exact ⟨rfl, HB1.out⟩
end Go.Proofs.Ytjgkekgieodhnab.Tre
