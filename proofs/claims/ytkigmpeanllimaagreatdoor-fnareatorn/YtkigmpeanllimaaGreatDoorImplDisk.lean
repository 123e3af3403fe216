/- What the program's DiskNew, DiskFlush, DiskRead answer. -/
import Derived.Test.YtkigmpeanllimaaGreatDoorTextsC
import Derived.Test.YtkigmpeanllimaaGreatDoorImplRight
namespace Go.Proofs.YtkigmpeanllimaaGreatDoor.Disk
open Go.RowKit Go.Proofs.YtkigmpeanllimaaGreatDoor.Mem Go.Proofs.YtkigmpeanllimaaGreatDoor.Harn Go.Proofs.YtkigmpeanllimaaGreatDoor.DiskP

set_option maxRecDepth 100000 in
set_option maxHeartbeats 1000000 in
theorem implFlush_any (vs vp : Value) (ls : List ByteArray) (lp : List (Int × ByteArray)) (w : World) (hs : Strs w vs ls) (hp : Pends w vp lp) (h1 : ls.length ≤ 1100000) (h2 : lp.length ≤ 1100000) (h3 : ∀ t ∈ ls, t.size ≤ maxLen) (h4 : ∀ y ∈ lp, y.2.size ≤ maxLen ∧ -9223372036854775808 ≤ y.1 ∧ y.1 ≤ 9223372036854775807) :
    Calls Tryz.prog 80 #[.agg #[vs, vp]] w fun e w' => Told w (flushO ls lp) e w' := by
  have HB0 : Hid (Below w.heap.size w ((w.alloc (.cells #[vs, vp] 26)).alloc (.cells #[.slice none 0 0, .slice none 0 0, .string ByteArray.empty, .int .i64 0] 69))) := ((Below.refl _ _).alloc (Nat.le_refl _) _).alloc (by simp) _
  have HK : Hid (Calls Tryz.prog 35 #[.agg #[vs, vp]] ((w.alloc (.cells #[vs, vp] 26)).alloc (.cells #[.slice none 0 0, .slice none 0 0, .string ByteArray.empty, .int .i64 0] 69)) fun e w' => e = .returned (.bool (rightB ls lp)) ∧ Below ((w.alloc (.cells #[vs, vp] 26)).alloc (.cells #[.slice none 0 0, .slice none 0 0, .string ByteArray.empty, .int .i64 0] 69)).heap.size ((w.alloc (.cells #[vs, vp] 26)).alloc (.cells #[.slice none 0 0, .slice none 0 0, .string ByteArray.empty, .int .i64 0] 69)) w') := implRight_any vs vp ls lp _ (Strs.below hs HB0.out) (Pends.below hp HB0.out) h1 h2 h3 h4
  have HS : Hid (Strs w vs ls) := hs
  have HP : Hid (Pends w vp lp) := hp
  clear hs hp h3 h4
  cases hr : rightB ls lp with
  | false =>
    rw [hr] at HK
    rw [flushO_form hr]
    clear hr
    go_enter Tryz.func80, Tryz.ntmps80
    go_wp2_with (go_at_call 35; refine HK.out.mono ?_; rintro e w1 ⟨rfl, hb1⟩; obtain ⟨m0, m1, m2, m3, mf⟩ := (Box4.below (box4_new w _) hb1 (by simp)).cells; have HB1 : Hid _ := hb1; clear hb1)
    refine bodyPost_ret (v := outV (.slice none 0 0) (.slice none 0 0) ByteArray.empty 1) (by simp [results, Tryz.results80, go_sem, m0, m1, m2, m3]; rfl) rfl ⟨_, _, rfl, own_zero _ _ _, ?_⟩
    have hB : Below w.heap.size w w1 := bT HB0.out HB1.out
    repeat' (first | exact hB | refine Below.setCell ?_ (by simp) _)
  | true =>
    obtain ⟨r1, r2, r3, r4, r5, r6, r7⟩ := right_pends hr
    rw [hr] at HK
    rw [flushO_ok hr]
    have R1 : Hid (∀ y ∈ lp, 0 ≤ y.1 ∧ y.1 < 64) := r1
    have R2 : Hid (∀ y ∈ lp, 0 ≤ y.1 ∧ y.2.size ≤ 2000000) := r2
    have R3 : Hid (∀ t ∈ ls, t.size ≤ 2000000) := r3
    clear hr r1 r2 r3 r7
    go_enter Tryz.func80, Tryz.ntmps80
    go_wp2_with (first
      | (go_at_call 35; refine HK.out.mono ?_; rintro e w1 ⟨rfl, hb1⟩; have B2 := Box2.below (box2_new w vs vp _) hb1 (by simp; omega); have B4 := Box4.below (box4_new w _) hb1 (by simp); obtain ⟨c0, c1, _⟩ := B2.cells; have hB1 : Hid (Below w.heap.size w w1) := bT HB0.out hb1; have HB4 : Hid (Box4 w1 (w.heap.size + 1)) := B4; have hz1 := hb1.size; simp at hz1; clear hb1 B2 B4)
      | (go_at_call 50; refine (workOn_any vs vp ls lp _ (Strs.below HS.out hB1.out) (Pends.below HP.out hB1.out) h1 h2 R3.out R1.out).mono ?_; rintro e w2 ⟨gs, gm, rfl, a1, a2, a3, a4, a5, a6, a7, hb2⟩; have HA1 : Hid _ := a1; have HA2 : Hid _ := a2; have HB2 : Hid _ := hb2; have hz2 := hb2.size; clear a1 a2 hb2 c0 c1)
      | (go_at_call 52; refine (flush_any gs gm lp.length ls.length w1.heap.size ls lp _ HA1.out HA2.out a5 a6 a3 a4 r5 R2.out).mono ?_; rintro e w3 ⟨rfl, b1, hb3⟩; obtain ⟨m0, m1, m2, m3, mf⟩ := (Box4.below (Box4.below HB4.out HB2.out (by omega)) hb3 (by omega)).cells; have HF : Hid _ := b1; have HB3 : Hid _ := hb3; have hz3 := hb3.size; clear b1 hb3))
    have HLN : Hid ((flushD ls lp).length = ls.length) := length_flushD ls lp
    refine bodyPost_ret (v := outV (.slice (some ⟨gs, 0, none⟩) ls.length ls.length) (.slice none 0 0) ByteArray.empty 0) (by simp [results, Tryz.results80, go_sem, m0, m1, m2, m3]; rfl) rfl ⟨_, _, rfl, ?_, ?_⟩
    · rw [← HLN.out]
      refine own_mk0 ?_ (by omega) (by simp; omega)
      repeat' (first | exact HF.out | refine StrsAt.other ?_ (by simp; omega) _)
    · have hB : Below w.heap.size w w3 := (hB1.out.trans (HB2.out.mono (by omega))).trans (HB3.out.mono (by omega))
      repeat' (first | exact hB | refine Below.setCell ?_ (by simp) _)
end Go.Proofs.YtkigmpeanllimaaGreatDoor.Disk
