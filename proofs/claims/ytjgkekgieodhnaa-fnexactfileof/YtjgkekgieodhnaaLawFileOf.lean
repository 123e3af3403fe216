/- The law on FileOf. -/
import Derived.Test.YtjgkekgieodhnaaFileOf
import Derived.Test.YtjgkekgieodhnaaLawTreeRight
import Derived.Deep.RegionHeld3
import Derived.Test.YtjgkekgieodhnaaCutCall
namespace Go.Proofs.Ytjgkekgieodhnaa.Tre
open Go.RowKit Go.Proofs.Ytjgkekgieodhnaa.Mem Go.Proofs.Ytjgkekgieodhnaa.Gf Go.Proofs.Ytjgkekgieodhnaa.Harn Go.Proofs.Ytjgkekgieodhnaa.Mark

theorem row_lt {W : World} {g : Nat} {cs : List Value} {e : TypeId} (h : HasRow W g cs e) : g < W.heap.size := by
  rcases Nat.lt_or_ge g W.heap.size with h1 | h1
  · exact h1
  · unfold HasRow at h; rw [Array.getElem?_eq_none h1] at h; cases h
theorem row_keep {W W' : World} {g : Nat} {cs : List Value} {e : TypeId} (h : HasRow W g cs e) (hb : Below W.heap.size W W') : HasRow W' g cs e := Sha.row_below h hb (row_lt h)
theorem bnew (W : World) (o : Obj) : Below W.heap.size W (W.alloc o) := (Below.refl _ _).alloc (Nat.le_refl _) _
set_option maxRecDepth 100000 in
set_option maxHeartbeats 1000000 in
theorem fileOf_law (u : Value) (l : List Fl) (x : ByteArray) (w : World) (h : Files w u l) (hn : l.length ≤ maxLen) (hz : ∀ y ∈ l, okF y) (_ : x.size ≤ maxLen) :
    Calls Try.prog 5 #[.agg #[u], .string x] w fun e w' => e = .returned (.bool true) ∧ Below w.heap.size w w' := by
  have KZ : Hid (∀ W, Files W u l → Calls Try.prog 10 #[.agg #[u], .int .i64 1048576] W fun e w' => Below W.heap.size W w' ∧ ((∃ r : Nat, e = .returned (.int .i64 (r : Int)) ∧ r + l.length + wtF l = 1048576) ∨ (e = .returned (.int .i64 (-1)) ∧ 1048576 < l.length + wtF l))) := fun W hW => szTree_any u l 1048576 W hW hn (by omega) (okF_sizes hz)
  have KT : Hid (l.length ≤ 1100000 → ∀ W, Files W u l → Calls Try.prog 12 #[.agg #[u]] W fun e w' => ∃ g, e = .returned (.agg #[.slice (some ⟨g, 0, none⟩) l.length l.length]) ∧ FilesAt w' g 0 l ∧ W.heap.size ≤ g ∧ g < w'.heap.size ∧ Below W.heap.size W w') := fun h W hW => toTree_any u l W hW h
  have KS : Hid (∀ v W, Files W v l → Calls Try.prog 15 #[.agg #[v], .string x] W fun e w' => e = .returned (.agg #[.string (fileOf l x).p, .int .i64 (fileOf l x).m, .string (fileOf l x).d]) ∧ Below W.heap.size W w') := fun v W hW => specFO_any v l x W hW hn (okF_sizes hz)
  have KI : Hid (∀ g W, FilesAt W g 0 l → Calls Try.prog 16 #[.agg #[.slice (some ⟨g, 0, none⟩) l.length l.length], .string x] W fun e w' => e = .returned (.agg #[.string (fileOf l x).p, .int .i64 (fileOf l x).m, .string (fileOf l x).d]) ∧ Below W.heap.size W w') := fun g W hW => implFO_any _ l x W (hW.files _) hn (okF_sizes hz) cap_self
  have KQ : Hid (∀ W, Calls Try.prog 17 #[.agg #[.string (fileOf l x).p, .int .i64 (fileOf l x).m, .string (fileOf l x).d], .agg #[.string (fileOf l x).p, .int .i64 (fileOf l x).m, .string (fileOf l x).d]] W fun e w' => e = .returned (.bool true) ∧ Below W.heap.size W w') := fun W => eqFile1 (fileOf l x) W
  have KE : Hid (l.length ≤ 1100000 → ∀ v1 v2 W, Files W v1 l → Files W v2 l → Calls Try.prog 14 #[.agg #[v1], .agg #[v2]] W fun e w' => e = .returned (.bool true) ∧ Below W.heap.size W w') := fun h v1 v2 W h1 h2 => eqTree_any v1 v2 l W h1 h2 h
  have HF := hidT h
  generalize (fileOf l x).p = rp at *
  generalize (fileOf l x).m = rm at *
  generalize (fileOf l x).d = rd at *

  clear h hn hz
  by_cases hbx : (1048576 : Int) < (x.size : Int)
  · go_enter Try.func5, Try.ntmps5
    go_wp2
    go_ret
    exact ⟨rfl, (Below.refl _ _).alloc (Nat.le_refl _) _⟩
  go_enter Try.func5, Try.ntmps5
  have hA0 := Sha.row_new w [u] 25
  have hB0 := bnew w (.cells #[u] 25)
  obtain ⟨W0, hW0⟩ : ∃ W0, W0 = w.alloc (.cells #[u] 25) := ⟨_, rfl⟩
  go_wp2_with fail
  rw [show ([u] : List Value).toArray = #[u] from rfl, ← hW0] at hA0
  rw [← hW0] at hB0 ⊢
  clear hW0
  refine (KZ.out _ (Files.below HF.out hB0)).mono ?_
  rintro e w1 ⟨hb1, hr⟩
  have hA1 := row_keep hA0 hb1
  have HB1 := hidT (bstep hB0 hb1)
  clear hb1 hA0 hB0
  have q1 : w1.cell? ⟨w.heap.size, 0, none⟩ = some u := Mem.cell_of_row hA1 0
  have HA1 := hidT hA1
  clear hA1
  rcases hr with ⟨r, rfl, h2⟩ | ⟨rfl, h2⟩
  · have KT' := hidT (KT.out (by omega))
    have KE' := hidT (KE.out (by omega))
    clear KT KE h2 KZ
    go_wp2_with fail
    refine (KT'.out _ (Files.below HF.out HB1.out)).mono ?_
    rintro e w2 ⟨g2, rfl, hf2, hg2, hg2', hb2⟩
    have HB2 := hidT (bstep HB1.out hb2)
    have HF2 := hidT (FilesAt.files hf2 l.length)
    have HA2 := hidT (row_keep HA1.out hb2)
    clear q1 hb2 HB1 hf2 hg2 hg2' HA1
    have q2 : w2.cell? ⟨w.heap.size, 0, none⟩ = some u := Mem.cell_of_row HA2.out 0
    go_wp2_with fail
    refine (KS.out _ _ HF2.out).mono ?_
    rintro e w3 ⟨rfl, hb3⟩
    have d3 := bstep hb3 (bnew w3 (.cells #[.string rp, .int .i64 rm, .string rd] 35))
    have HB3 := hidT (bstep HB2.out d3)
    have HA3 := hidT (row_keep HA2.out d3)
    have HC3 := hidT (Sha.row_new w3 [.string rp, .int .i64 rm, .string rd] 35)
    have q3 : (w3.alloc (.cells #[.string rp, .int .i64 rm, .string rd] 35)).cell? ⟨w.heap.size, 0, none⟩ = some u := Mem.cell_of_row HA3.out 0
    clear q2 hb3 d3 HB2 HA2 HF2
    generalize hW3 : w3.alloc (.cells #[.string rp, .int .i64 rm, .string rd] 35) = W3 at *
    go_wp2_with fail
    clear hW3
    refine (KT'.out _ (Files.below HF.out HB3.out)).mono ?_
    rintro e w4 ⟨g4, rfl, hf4, hg4, hg4', hb4⟩
    have d4 := bstep hb4 (bnew w4 (.cells #[(.slice (some ⟨g4, 0, none⟩) l.length l.length)] 30))
    have HB4 := hidT (bstep HB3.out d4)
    have HA4 := hidT (row_keep HA3.out d4)
    have HC4 := hidT (row_keep HC3.out d4)
    have HD4 := hidT (Sha.row_new w4 [(.slice (some ⟨g4, 0, none⟩) l.length l.length)] 30)
    have HF4 := hidT (FilesAt.below hf4 (bnew w4 (.cells #[(.slice (some ⟨g4, 0, none⟩) l.length l.length)] 30)))
    have q4 : (w4.alloc (.cells #[(.slice (some ⟨g4, 0, none⟩) l.length l.length)] 30)).cell? ⟨w4.heap.size, 0, none⟩ = some (.slice (some ⟨g4, 0, none⟩) l.length l.length) := Mem.cell_of_row HD4.out 0
    clear q3 hb4 d4 HB3 HA3 HC3 hf4 hg4 hg4'
    generalize hW4 : w4.alloc (.cells #[(.slice (some ⟨g4, 0, none⟩) l.length l.length)] 30) = W4 at *
    go_wp2_with fail
    clear hW4
    refine (KI.out _ _ HF4.out).mono ?_
    rintro e w5 ⟨rfl, hb5⟩
    have d5 := bstep hb5 (bnew w5 (.cells #[.string rp, .int .i64 rm, .string rd] 35))
    have HB5 := hidT (bstep HB4.out d5)
    have HA5 := hidT (row_keep HA4.out d5)
    have HC5 := hidT (row_keep HC4.out d5)
    have HD5 := hidT (row_keep HD4.out d5)
    have HE5 := hidT (Sha.row_new w5 [.string rp, .int .i64 rm, .string rd] 35)
    have HF5 := hidT (FilesAt.below HF4.out d5)
    clear q4 hb5 d5 HB4 HA4 HC4 HD4 HF4
    obtain ⟨r1, ⟨r2, r3, r4⟩, r5, r6, r7, r8⟩ : (w5.alloc (.cells #[.string rp, .int .i64 rm, .string rd] 35)).cell? ⟨w.heap.size, 0, none⟩ = some u ∧ ((w5.alloc (.cells #[.string rp, .int .i64 rm, .string rd] 35)).cell? ⟨w3.heap.size, 0, none⟩ = some (.string rp) ∧ (w5.alloc (.cells #[.string rp, .int .i64 rm, .string rd] 35)).cell? ⟨w3.heap.size, 1, none⟩ = some (.int .i64 rm) ∧ (w5.alloc (.cells #[.string rp, .int .i64 rm, .string rd] 35)).cell? ⟨w3.heap.size, 2, none⟩ = some (.string rd)) ∧ (w5.alloc (.cells #[.string rp, .int .i64 rm, .string rd] 35)).cell? ⟨w4.heap.size, 0, none⟩ = some (.slice (some ⟨g4, 0, none⟩) l.length l.length) ∧ ((w5.alloc (.cells #[.string rp, .int .i64 rm, .string rd] 35)).cell? ⟨w5.heap.size, 0, none⟩ = some (.string rp) ∧ (w5.alloc (.cells #[.string rp, .int .i64 rm, .string rd] 35)).cell? ⟨w5.heap.size, 1, none⟩ = some (.int .i64 rm) ∧ (w5.alloc (.cells #[.string rp, .int .i64 rm, .string rd] 35)).cell? ⟨w5.heap.size, 2, none⟩ = some (.string rd)) := ⟨Mem.cell_of_row HA5.out 0, ⟨Mem.cell_of_row HC5.out 0, Mem.cell_of_row HC5.out 1, Mem.cell_of_row HC5.out 2⟩, Mem.cell_of_row HD5.out 0, ⟨Mem.cell_of_row HE5.out 0, Mem.cell_of_row HE5.out 1, Mem.cell_of_row HE5.out 2⟩⟩
    generalize hW5 : w5.alloc (.cells #[.string rp, .int .i64 rm, .string rd] 35) = W5 at *
    go_wp2_with fail
    clear hW5
    refine (KQ.out _).mono ?_
    rintro e w6 ⟨rfl, d6⟩
    have HB6 := hidT (bstep HB5.out d6)
    have HA6 := hidT (row_keep HA5.out d6)
    have HD6 := hidT (row_keep HD5.out d6)
    have HF6 := hidT (FilesAt.below HF5.out d6)
    clear d6 r1 r2 r3 r4 r5 r6 r7 r8 HB5 HA5 HC5 HD5 HE5 HF5
    have q1 : w6.cell? ⟨w.heap.size, 0, none⟩ = some u := Mem.cell_of_row HA6.out 0
    have q2 : w6.cell? ⟨w4.heap.size, 0, none⟩ = some (.slice (some ⟨g4, 0, none⟩) l.length l.length) := Mem.cell_of_row HD6.out 0
    go_wp2_with fail
    go_region_held3 (fun w' => w'.cell? ⟨w.heap.size, 0, none⟩ = some u ∧ w'.cell? ⟨w4.heap.size, 0, none⟩ = some (.slice (some ⟨g4, 0, none⟩) l.length l.length))
      (first
        | go_keep
        | (exact kR)
        | (exact kQ))
      (first
        | (go_at_call 12; refine (KT'.out _ (Files.below HF.out (Sha.bel_drewN HB6.out 1))).mono ?_; rintro e w7 ⟨g7, rfl, hf7, hg7, hg7', hb7⟩; have d7 : Below w6.heap.size w6 w7 := Below.trans (Sha.bel_drewN (Below.refl w6.heap.size w6) 1) hb7; have HB7 := hidT (bstep HB6.out d7); have HA7 := hidT (row_keep HA6.out d7); have HD7 := hidT (row_keep HD6.out d7); have HF7 := hidT (FilesAt.below HF6.out d7); have HG7 := hidT (FilesAt.files hf7 l.length); clear hf7 hg7 hg7' hb7 d7; have kQ : w7.cell? ⟨w.heap.size, 0, none⟩ = some u ∧ w7.cell? ⟨w4.heap.size, 0, none⟩ = some (.slice (some ⟨g4, 0, none⟩) l.length l.length) := ⟨Mem.cell_of_row HA7.out 0, Mem.cell_of_row HD7.out 0⟩)
        | (go_at_call 14; refine (KE'.out _ _ _ (FilesAt.files HF7.out _) HG7.out).mono ?_; rintro e w8 ⟨rfl, d8⟩; have HB8 := hidT (bstep HB7.out d8); have HA8 := hidT (row_keep HA7.out d8); have HD8 := hidT (row_keep HD7.out d8); clear d8; have kR : w8.cell? ⟨w.heap.size, 0, none⟩ = some u ∧ w8.cell? ⟨w4.heap.size, 0, none⟩ = some (.slice (some ⟨g4, 0, none⟩) l.length l.length) := ⟨Mem.cell_of_row HA8.out 0, Mem.cell_of_row HD8.out 0⟩; simp only [CutCall.shut_cut] at *))
    unfold Hid
    refine wpAnyH_take (i := 4) (v := ?_) rfl (by kernel_rfl) (by kernel_rfl) (by kernel_rfl) (fun _ _ _ h => h) (Or.inl ⟨by rfl, ?_⟩) kR ?_
    rotate_left
    · (intro w9 hS9; (try dsimp only at hS9); go_simp; (try with_reducible rfl))
    simp only [List.getElem_toArray, List.getElem_cons_succ, List.getElem_cons_zero, Act.put, List.setIfInBounds_toArray, List.set_cons_zero, List.set_cons_succ]
    refine wpAnyH_done (by kernel_rfl) ?_ _
    refine NoPanic.normal ?_
    go_wp2
    go_ret
    exact ⟨rfl, HB8.out⟩
  · go_wp2
    go_ret
    exact ⟨rfl, HB1.out⟩
end Go.Proofs.Ytjgkekgieodhnaa.Tre
