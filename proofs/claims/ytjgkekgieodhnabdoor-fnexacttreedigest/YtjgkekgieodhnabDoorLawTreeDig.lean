/- The law on TreeDigest. -/
import Derived.Test.YtjgkekgieodhnabDoorImplTB
import Derived.Test.YtjgkekgieodhnabDoorLawTreeRight
import Derived.Test.YtjgkekgieodhnabDoorDigLaws
import Derived.Deep.RegionHeld3
import Derived.Test.YtjgkekgieodhnabDoorTextsA
namespace Go.Proofs.YtjgkekgieodhnabDoor.Tre
open Go.RowKit Go.Proofs.YtjgkekgieodhnabDoor.Mem Go.Proofs.YtjgkekgieodhnabDoor.Gf Go.Proofs.YtjgkekgieodhnabDoor.Harn Go.Proofs.YtjgkekgieodhnabDoor.Mark Go.Proofs.YtjgkekgieodhnabDoor.Frm

def treeD (l : List Fl) : ByteArray := if treeR l then Sha.digB (treeB l) else ByteArray.empty
theorem treeB_size {l : List Fl} (h : treeR l = true) : (treeB l).size ≤ 800 := by
  have := treeT_size h
  unfold treeB; rw [catB_size]; exact this
set_option maxRecDepth 100000 in
set_option maxHeartbeats 1000000 in
theorem specTD_any (v : Value) (l : List Fl) (w : World) (h : Files w v l) (hn : l.length ≤ maxLen) (hs : ∀ y ∈ l, y.p.size ≤ maxLen ∧ y.d.size ≤ maxLen) :
    Calls Tryd.prog 5 #[.agg #[v]] w fun e w' => e = .returned (.string (treeD l)) ∧ Below w.heap.size w w' := by
  have K1 : Hid (∀ W, Files W v l → Calls Tryd.prog 10 #[.agg #[v]] W fun e w' => e = .returned (.bool (treeR l)) ∧ Below W.heap.size W w') := fun W hW => specTR_any v l W hW hn hs
  have K2 : Hid (treeR l = true → ∀ W, Files W v l → Calls Tryd.prog 12 #[.agg #[v]] W fun e w' => e = .returned (.string (treeB l)) ∧ Below W.heap.size W w') := fun hr W hW => l07Bytes_any v l W hW hr
  have K3 : Hid (treeR l = true → ∀ W, Calls Tryd.prog 11 #[.string (treeB l)] W fun e w' => e = .returned (.string (Sha.digB (treeB l))) ∧ Below W.heap.size W w') := fun hr W => Sha.specAll_any _ W (by have := treeB_size hr; omega)
  have HF := hidT h
  unfold treeD
  generalize treeR l = z at *
  generalize Sha.digB (treeB l) = D at *
  generalize treeB l = R at *
  have hB0 := (Below.refl w.heap.size w).alloc (Nat.le_refl _) (.cells #[v] 29)
  clear h hn hs
  cases z
  · go_enter Tryd.func5, Tryd.ntmps5
    go_wp2_with fail
    refine (K1.out _ (by first | exact HF.out | exact Files.below HF.out hB0)).mono ?_
    rintro e w1 ⟨rfl, hb1⟩
    go_wp2
    go_ret
    exact ⟨rfl, by first | exact hb1 | exact bstep hB0 hb1⟩
  · have K2' := hidT (K2.out rfl)
    have K3' := hidT (K3.out rfl)
    clear K2 K3
    go_enter Tryd.func5, Tryd.ntmps5
    go_wp2_with fail
    refine (K1.out _ (by first | exact HF.out | exact Files.below HF.out hB0)).mono ?_
    rintro e w1 ⟨rfl, hb1⟩
    have HB1 : Hid (Below w.heap.size w w1) := by first | exact hb1 | exact bstep hB0 hb1
    try (have hx1 := (hb1.cell (p := ⟨w.heap.size, 0, none⟩) (by simp)); simp at hx1)
    clear hb1
    go_wp2_with fail
    refine (K2'.out _ (Files.below HF.out HB1.out)).mono ?_
    rintro e w2 ⟨rfl, hb2⟩
    have HB2 := hidT (bstep HB1.out hb2)
    clear hb2
    go_wp2_with fail
    refine (K3'.out _).mono ?_
    rintro e w3 ⟨rfl, hb3⟩
    go_wp2
    go_ret
    exact ⟨rfl, bstep HB2.out hb3⟩
set_option maxRecDepth 100000 in
set_option maxHeartbeats 1000000 in
theorem implTD_any (v : Value) (l : List Fl) (w : World) (h : Files w v l) (hn : l.length ≤ maxLen) (hs : ∀ y ∈ l, y.p.size ≤ maxLen ∧ y.d.size ≤ maxLen) (hcap : ∀ a n c, v = .slice a n c → n ≤ c) (hL : Sha.KeysLaid w) :
    Calls Tryd.prog 7 #[.agg #[v]] w fun e w' => e = .returned (.string (treeD l)) ∧ Below w.heap.size w w' := by
  have K1 : Hid (∀ W, Files W v l → Calls Tryd.prog 14 #[.agg #[v]] W fun e w' => e = .returned (.bool (treeR l)) ∧ Below W.heap.size W w') := fun W hW => implTR_any v l W hW hn hs hcap
  have K2 : Hid (∀ W, Files W v l → Calls Tryd.prog 16 #[.agg #[v]] W fun e w' => e = .returned (.string (treeO l)) ∧ Below W.heap.size W w') := fun W hW => implTB_any v l W hW hn hs hcap
  have K3 : Hid (treeR l = true → ∀ W, Sha.KeysLaid W → Calls Tryd.prog 15 #[.string (treeB l)] W fun e w' => e = .returned (.string (Sha.digB (treeB l))) ∧ Below W.heap.size W w') := fun hr W hW => by
    have := Sha.implDigest_any (treeB l) W hW
    unfold Sha.digestB at this
    rw [if_pos (by have := treeB_size hr; omega)] at this
    exact this
  have HF := hidT h
  have HL := hidT hL
  unfold treeO at K2
  unfold treeD
  generalize treeR l = z at *
  generalize Sha.digB (treeB l) = D at *
  generalize treeB l = R at *
  have hB0 := (Below.refl w.heap.size w).alloc (Nat.le_refl _) (.cells #[v] 29)
  clear h hn hs hcap hL
  cases z
  · clear K2 K3
    go_enter Tryd.func7, Tryd.ntmps7
    go_wp2_with fail
    refine (K1.out _ (by first | exact HF.out | exact Files.below HF.out hB0)).mono ?_
    rintro e w1 ⟨rfl, hb1⟩
    go_wp2
    go_ret
    exact ⟨rfl, by first | exact hb1 | exact bstep hB0 hb1⟩
  · have K2' : Hid (∀ W, Files W v l → Calls Tryd.prog 16 #[.agg #[v]] W fun e w' => e = .returned (.string R) ∧ Below W.heap.size W w') := K2.out
    have K3' := hidT (K3.out rfl)
    clear K2 K3
    go_enter Tryd.func7, Tryd.ntmps7
    go_wp2_with fail
    refine (K1.out _ (by first | exact HF.out | exact Files.below HF.out hB0)).mono ?_
    rintro e w1 ⟨rfl, hb1⟩
    have HB1 : Hid (Below w.heap.size w w1) := by first | exact hb1 | exact bstep hB0 hb1
    try (have hx1 := (hb1.cell (p := ⟨w.heap.size, 0, none⟩) (by simp)); simp at hx1)
    clear hb1
    go_wp2_with fail
    refine (K2'.out _ (Files.below HF.out HB1.out)).mono ?_
    rintro e w2 ⟨rfl, hb2⟩
    have HB2 := hidT (bstep HB1.out hb2)
    clear hb2
    go_wp2_with fail
    refine (K3'.out _ (Sha.keys_below HB2.out HL.out)).mono ?_
    rintro e w3 ⟨rfl, hb3⟩
    go_wp2
    go_ret
    exact ⟨rfl, bstep HB2.out hb3⟩
set_option maxRecDepth 100000 in
set_option maxHeartbeats 1000000 in
theorem treeDigest_law (u : Value) (l : List Fl) (w : World) (hL : Sha.KeysLaid w) (h : Files w u l) (hn : l.length ≤ maxLen) (hz : ∀ y ∈ l, okF y) :
    Calls Tryd.prog 3 #[.agg #[u]] w fun e w' => e = .returned (.bool true) ∧ Below w.heap.size w w' := by
  have KZ : Hid (∀ W, Files W u l → Calls Tryd.prog 4 #[.agg #[u], .int .i64 1048576] W fun e w' => Below W.heap.size W w' ∧ ((∃ r : Nat, e = .returned (.int .i64 (r : Int)) ∧ r + l.length + wtF l = 1048576) ∨ (e = .returned (.int .i64 (-1)) ∧ 1048576 < l.length + wtF l))) := fun W hW => szTree_any u l 1048576 W hW hn (by omega) (okF_sizes hz)
  have KT : Hid (l.length ≤ 1100000 → ∀ W, Files W u l → Calls Tryd.prog 6 #[.agg #[u]] W fun e w' => ∃ g, e = .returned (.agg #[.slice (some ⟨g, 0, none⟩) l.length l.length]) ∧ FilesAt w' g 0 l ∧ W.heap.size ≤ g ∧ g < w'.heap.size ∧ Below W.heap.size W w') := fun h W hW => toTree_any u l W hW h
  have KS : Hid (∀ v W, Files W v l → Calls Tryd.prog 5 #[.agg #[v]] W fun e w' => e = .returned (.string (treeD l)) ∧ Below W.heap.size W w') := fun v W hW => specTD_any v l W hW hn (okF_sizes hz)
  have KI : Hid (∀ g W, FilesAt W g 0 l → Sha.KeysLaid W → Calls Tryd.prog 7 #[.agg #[.slice (some ⟨g, 0, none⟩) l.length l.length]] W fun e w' => e = .returned (.string (treeD l)) ∧ Below W.heap.size W w') := fun g W hW hk => implTD_any _ l W (hW.files _) hn (okF_sizes hz) cap_self hk
  have HL := hidT hL
  have KE : Hid (l.length ≤ 1100000 → ∀ v1 v2 W, Files W v1 l → Files W v2 l → Calls Tryd.prog 8 #[.agg #[v1], .agg #[v2]] W fun e w' => e = .returned (.bool true) ∧ Below W.heap.size W w') := fun h v1 v2 W h1 h2 => eqTree_any v1 v2 l W h1 h2 h
  have HF := hidT h
  generalize treeD l = z at *
  clear h hn hz hL
  go_enter Tryd.func3, Tryd.ntmps3
  go_wp2_with fail
  refine (KZ.out _ (Files.below HF.out ((Below.refl _ _).alloc (Nat.le_refl _) _))).mono ?_
  rintro e w1 ⟨hb1, hr⟩
  have HFW := hidT (Files.below HF.out ((Below.refl w.heap.size w).alloc (Nat.le_refl _) (.cells #[u] 24)))
  have HA1 := hidT hb1
  have hcc := (bcell HA1.out).1 w.heap.size 0 (by simp)
  simp at hcc
  clear hb1
  rcases hr with ⟨r, rfl, h2⟩ | ⟨rfl, h2⟩
  · have KT' := hidT (KT.out (by omega))
    have KE' := hidT (KE.out (by omega))
    clear KT KE h2 KZ HF
    go_wp2_with fail
    refine (KT'.out _ (Files.below HFW.out HA1.out)).mono ?_
    rintro e w2 ⟨g2, rfl, hf2, hg2, hg2', hb2⟩
    have HA2 := hidT (bstep HA1.out hb2)
    have HF2 := hidT (FilesAt.files hf2 l.length)
    clear hcc hb2 HA1 hf2 hg2 hg2'
    have hcc := (bcell HA2.out).1 w.heap.size 0 (by simp)
    simp at hcc
    go_wp2_with fail
    refine (KS.out _ _ HF2.out).mono ?_
    rintro e w3 ⟨rfl, hb3⟩
    have HA3 := hidT (bstep HA2.out hb3)
    clear hcc hb3 HA2 HF2
    have hcc := (bcell HA3.out).1 w.heap.size 0 (by simp)
    simp at hcc
    go_wp2_with fail
    refine (KT'.out _ (Files.below HFW.out HA3.out)).mono ?_
    rintro e w4 ⟨g4, rfl, hf4, hg4, hg4', hb4⟩
    have HA4 := hidT (bstep HA3.out hb4)
    have HF4 := hidT hf4
    clear hcc hb4 HA3 hf4 hg4 hg4'
    have hcc := (bcell HA4.out).1 w.heap.size 0 (by simp)
    simp at hcc
    go_wp2_with fail
    have HA4b := hidT (bstep HA4.out ((Below.refl w4.heap.size w4).alloc (Nat.le_refl _) (.cells #[.slice (some ⟨g4, 0, none⟩) l.length l.length] 29)))
    have HF4b := hidT (FilesAt.below HF4.out ((Below.refl w4.heap.size w4).alloc (Nat.le_refl _) (.cells #[.slice (some ⟨g4, 0, none⟩) l.length l.length] 29)))
    refine (KI.out _ _ HF4b.out (Sha.keys_below (bstep ((Below.refl w.heap.size w).alloc (Nat.le_refl _) _) HA4b.out) HL.out)).mono ?_
    rintro e w5 ⟨rfl, hb5⟩
    have HA5 := hidT (bstep HA4b.out hb5)
    have HF5 := hidT (FilesAt.below HF4b.out hb5)
    have hx0 := (bcell hb5).1 w4.heap.size 0 (by simp)
    simp at hx0
    have hl5 : w4.heap.size < w5.heap.size := World.block_lt_of_cell? w5 _ hx0
    clear hcc hb5 HA4 HF4 HA4b HF4b
    have hcc := (bcell HA5.out).1 w.heap.size 0 (by simp)
    simp at hcc
    go_wp2_with fail
    have hl0 : w.heap.size < w5.heap.size := World.block_lt_of_cell? w5 _ hcc
    go_region_held3 (fun w' => w'.cell? ⟨w.heap.size, 0, none⟩ = some u ∧ w'.cell? ⟨w4.heap.size, 0, none⟩ = some (.slice (some ⟨g4, 0, none⟩) l.length l.length))
      (first
        | go_keep
        | (exact kR)
        | (exact kQ))
      (first
        | (go_at_call 6; refine (KT'.out _ (Files.below HFW.out (Sha.bel_drewN HA5.out 1))).mono ?_; rintro e w6 ⟨g6, rfl, hf6, hg6, hg6', hb6⟩; have kQ : w6.cell? ⟨w.heap.size, 0, none⟩ = some u ∧ w6.cell? ⟨w4.heap.size, 0, none⟩ = some (.slice (some ⟨g4, 0, none⟩) l.length l.length) := ⟨((bcell hb6).1 w.heap.size 0 hl0).trans hcc, ((bcell hb6).1 w4.heap.size 0 hl5).trans hx0⟩; have HA6 := hidT (bstep HA5.out (Below.trans (Sha.bel_drewN (Below.refl w5.heap.size w5) 1) hb6)); have HF6 := hidT (FilesAt.below HF5.out (Below.trans (Sha.bel_drewN (Below.refl w5.heap.size w5) 1) hb6)); have HF7 := hidT (FilesAt.files hf6 l.length); clear hf6 hg6 hg6' hb6)
        | (go_at_call 8; refine (KE'.out _ _ _ (FilesAt.files HF6.out _) HF7.out).mono ?_; rintro e w7 ⟨rfl, hb7⟩; have kR : w7.cell? ⟨w.heap.size, 0, none⟩ = some u ∧ w7.cell? ⟨w4.heap.size, 0, none⟩ = some (.slice (some ⟨g4, 0, none⟩) l.length l.length) := ⟨((bcell hb7).1 w.heap.size 0 (World.block_lt_of_cell? w6 _ kQ.1)).trans kQ.1, ((bcell hb7).1 w4.heap.size 0 (World.block_lt_of_cell? w6 _ kQ.2)).trans kQ.2⟩; have HA7 := hidT (bstep HA6.out hb7); clear hb7; simp only [CutCall.shut_cut] at *))
    unfold Hid
    refine wpAnyH_take (i := 4) (v := ?_) rfl (by kernel_rfl) (by kernel_rfl) (by kernel_rfl) (fun _ _ _ h => h) (Or.inl ⟨by rfl, ?_⟩) kR ?_
    rotate_left
    · (intro w9 hS9; (try dsimp only at hS9); go_simp; (try with_reducible rfl))
    simp only [List.getElem_toArray, List.getElem_cons_succ, List.getElem_cons_zero, Act.put, List.setIfInBounds_toArray, List.set_cons_zero, List.set_cons_succ]
    refine wpAnyH_done (by kernel_rfl) ?_ _
    refine NoPanic.normal ?_
    go_wp2
    go_ret
    exact ⟨rfl, bstep ((Below.refl w.heap.size w).alloc (Nat.le_refl _) _) HA7.out⟩
  · go_wp2
    go_ret
    exact ⟨rfl, bstep ((Below.refl w.heap.size w).alloc (Nat.le_refl _) _) HA1.out⟩
end Go.Proofs.YtjgkekgieodhnabDoor.Tre
