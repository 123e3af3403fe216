/- The law on TreeBytes. -/
import Derived.Test.YtjgkekgieodhnaaImplTB
import Derived.Test.YtjgkekgieodhnaaLawTreeRight
import Derived.Deep.RegionHeld3
import Derived.Test.YtjgkekgieodhnaaTextsA
namespace Go.Proofs.Ytjgkekgieodhnaa.Tre
open Go.RowKit Go.Proofs.Ytjgkekgieodhnaa.Mem Go.Proofs.Ytjgkekgieodhnaa.Gf Go.Proofs.Ytjgkekgieodhnaa.Harn Go.Proofs.Ytjgkekgieodhnaa.Mark

set_option maxRecDepth 100000 in
set_option maxHeartbeats 1000000 in
theorem treeBytes_law (u : Value) (l : List Fl) (w : World) (h : Files w u l) (hn : l.length ≤ maxLen) (hz : ∀ y ∈ l, okF y) :
    Calls Try.prog 7 #[.agg #[u]] w fun e w' => e = .returned (.bool true) ∧ Below w.heap.size w w' := by
  have KZ : Hid (∀ W, Files W u l → Calls Try.prog 10 #[.agg #[u], .int .i64 1048576] W fun e w' => Below W.heap.size W w' ∧ ((∃ r : Nat, e = .returned (.int .i64 (r : Int)) ∧ r + l.length + wtF l = 1048576) ∨ (e = .returned (.int .i64 (-1)) ∧ 1048576 < l.length + wtF l))) := fun W hW => szTree_any u l 1048576 W hW hn (by omega) (okF_sizes hz)
  have KT : Hid (l.length ≤ 1100000 → ∀ W, Files W u l → Calls Try.prog 12 #[.agg #[u]] W fun e w' => ∃ g, e = .returned (.agg #[.slice (some ⟨g, 0, none⟩) l.length l.length]) ∧ FilesAt w' g 0 l ∧ W.heap.size ≤ g ∧ g < w'.heap.size ∧ Below W.heap.size W w') := fun h W hW => toTree_any u l W hW h
  have KS : Hid (∀ v W, Files W v l → Calls Try.prog 26 #[.agg #[v]] W fun e w' => e = .returned (.string (treeO l)) ∧ Below W.heap.size W w') := fun v W hW => specTB_any v l W hW hn (okF_sizes hz)
  have KI : Hid (∀ g W, FilesAt W g 0 l → Calls Try.prog 27 #[.agg #[.slice (some ⟨g, 0, none⟩) l.length l.length]] W fun e w' => e = .returned (.string (treeO l)) ∧ Below W.heap.size W w') := fun g W hW => implTB_any _ l W (hW.files _) hn (okF_sizes hz) cap_self
  have KE : Hid (l.length ≤ 1100000 → ∀ v1 v2 W, Files W v1 l → Files W v2 l → Calls Try.prog 14 #[.agg #[v1], .agg #[v2]] W fun e w' => e = .returned (.bool true) ∧ Below W.heap.size W w') := fun h v1 v2 W h1 h2 => eqTree_any v1 v2 l W h1 h2 h
  have HF := hidT h
  generalize treeO l = z at *
  clear h hn hz
  go_enter Try.func7, Try.ntmps7
  go_wp2_with fail
  refine (KZ.out _ (Files.below HF.out ((Below.refl _ _).alloc (Nat.le_refl _) _))).mono ?_
  rintro e w1 ⟨hb1, hr⟩
  have HFW := hidT (Files.below HF.out ((Below.refl w.heap.size w).alloc (Nat.le_refl _) (.cells #[u] 25)))
  have HA1 := hidT hb1
  have hcc := (bcell HA1.out).1 w.heap.size 0 (by simp)
  simp at hcc
  clear hb1
  rcases hr with ⟨r, rfl, h2⟩ | ⟨rfl, h2⟩
  · have KT' := hidT (KT.out (by omega))
    have KE' := hidT (KE.out (by omega))
    clear KT KE h2 KZ HF
    go_wp2_with fail
    refine (KT'.out _ (Files.below HFW.out HA1.out)).mono ?_
    rintro e w2 ⟨g2, rfl, hf2, hg2, hg2', hb2⟩
    have HA2 := hidT (bstep HA1.out hb2)
    have HF2 := hidT (FilesAt.files hf2 l.length)
    clear hcc hb2 HA1 hf2 hg2 hg2'
    have hcc := (bcell HA2.out).1 w.heap.size 0 (by simp)
    simp at hcc
    go_wp2_with fail
    refine (KS.out _ _ HF2.out).mono ?_
    rintro e w3 ⟨rfl, hb3⟩
    have HA3 := hidT (bstep HA2.out hb3)
    clear hcc hb3 HA2 HF2
    have hcc := (bcell HA3.out).1 w.heap.size 0 (by simp)
    simp at hcc
    go_wp2_with fail
    refine (KT'.out _ (Files.below HFW.out HA3.out)).mono ?_
    rintro e w4 ⟨g4, rfl, hf4, hg4, hg4', hb4⟩
    have HA4 := hidT (bstep HA3.out hb4)
    have HF4 := hidT hf4
    clear hcc hb4 HA3 hf4 hg4 hg4'
    have hcc := (bcell HA4.out).1 w.heap.size 0 (by simp)
    simp at hcc
    go_wp2_with fail
    have HA4b := hidT (bstep HA4.out ((Below.refl w4.heap.size w4).alloc (Nat.le_refl _) (.cells #[.slice (some ⟨g4, 0, none⟩) l.length l.length] 30)))
    have HF4b := hidT (FilesAt.below HF4.out ((Below.refl w4.heap.size w4).alloc (Nat.le_refl _) (.cells #[.slice (some ⟨g4, 0, none⟩) l.length l.length] 30)))
    refine (KI.out _ _ HF4b.out).mono ?_
    rintro e w5 ⟨rfl, hb5⟩
    have HA5 := hidT (bstep HA4b.out hb5)
    have HF5 := hidT (FilesAt.below HF4b.out hb5)
    have hx0 := (bcell hb5).1 w4.heap.size 0 (by simp)
    simp at hx0
    have hl5 : w4.heap.size < w5.heap.size := World.block_lt_of_cell? w5 _ hx0
    clear hcc hb5 HA4 HF4 HA4b HF4b
    have hcc := (bcell HA5.out).1 w.heap.size 0 (by simp)
    simp at hcc
    go_wp2_with fail
    have hl0 : w.heap.size < w5.heap.size := World.block_lt_of_cell? w5 _ hcc
    go_region_held3 (fun w' => w'.cell? ⟨w.heap.size, 0, none⟩ = some u ∧ w'.cell? ⟨w4.heap.size, 0, none⟩ = some (.slice (some ⟨g4, 0, none⟩) l.length l.length))
      (first
        | go_keep
        | (exact kR)
        | (exact kQ))
      (first
        | (go_at_call 12; refine (KT'.out _ (Files.below HFW.out (Sha.bel_drewN HA5.out 1))).mono ?_; rintro e w6 ⟨g6, rfl, hf6, hg6, hg6', hb6⟩; have kQ : w6.cell? ⟨w.heap.size, 0, none⟩ = some u ∧ w6.cell? ⟨w4.heap.size, 0, none⟩ = some (.slice (some ⟨g4, 0, none⟩) l.length l.length) := ⟨((bcell hb6).1 w.heap.size 0 hl0).trans hcc, ((bcell hb6).1 w4.heap.size 0 hl5).trans hx0⟩; have HA6 := hidT (bstep HA5.out (Below.trans (Sha.bel_drewN (Below.refl w5.heap.size w5) 1) hb6)); have HF6 := hidT (FilesAt.below HF5.out (Below.trans (Sha.bel_drewN (Below.refl w5.heap.size w5) 1) hb6)); have HF7 := hidT (FilesAt.files hf6 l.length); clear hf6 hg6 hg6' hb6)
        | (go_at_call 14; refine (KE'.out _ _ _ (FilesAt.files HF6.out _) HF7.out).mono ?_; rintro e w7 ⟨rfl, hb7⟩; have kR : w7.cell? ⟨w.heap.size, 0, none⟩ = some u ∧ w7.cell? ⟨w4.heap.size, 0, none⟩ = some (.slice (some ⟨g4, 0, none⟩) l.length l.length) := ⟨((bcell hb7).1 w.heap.size 0 (World.block_lt_of_cell? w6 _ kQ.1)).trans kQ.1, ((bcell hb7).1 w4.heap.size 0 (World.block_lt_of_cell? w6 _ kQ.2)).trans kQ.2⟩; have HA7 := hidT (bstep HA6.out hb7); clear hb7; simp only [CutCall.shut_cut] at *))
    unfold Hid
    refine wpAnyH_take (i := 4) (v := ?_) rfl (by kernel_rfl) (by kernel_rfl) (by kernel_rfl) (fun _ _ _ h => h) (Or.inl ⟨by rfl, ?_⟩) kR ?_
    rotate_left
    · (intro w9 hS9; (try dsimp only at hS9); go_simp; (try with_reducible rfl))
    simp only [List.getElem_toArray, List.getElem_cons_succ, List.getElem_cons_zero, Act.put, List.setIfInBounds_toArray, List.set_cons_zero, List.set_cons_succ]
    refine wpAnyH_done (by kernel_rfl) ?_ _
    refine NoPanic.normal ?_
    go_wp2
    go_ret
    exact ⟨rfl, bstep ((Below.refl w.heap.size w).alloc (Nat.le_refl _) _) HA7.out⟩
  · go_wp2
    go_ret
    exact ⟨rfl, bstep ((Below.refl w.heap.size w).alloc (Nat.le_refl _) _) HA1.out⟩
end Go.Proofs.Ytjgkekgieodhnaa.Tre
