/- What the program's DiskNew, DiskRead answer. -/
import Derived.Test.YtkigmpeanllimaaGreatDoorImplDisk
namespace Go.Proofs.YtkigmpeanllimaaGreatDoor.Disk
open Go.RowKit Go.Proofs.YtkigmpeanllimaaGreatDoor.Mem Go.Proofs.YtkigmpeanllimaaGreatDoor.Harn Go.Proofs.YtkigmpeanllimaaGreatDoor.DiskP

set_option maxRecDepth 100000 in
set_option maxHeartbeats 1000000 in
theorem implRead_any (vs vp : Value) (ls : List ByteArray) (lp : List (Int × ByteArray)) (x : Int) (w : World) (hs : Strs w vs ls) (hp : Pends w vp lp) (h1 : ls.length ≤ 1100000) (h2 : lp.length ≤ 1100000) (h3 : ∀ t ∈ ls, t.size ≤ maxLen) (h4 : ∀ y ∈ lp, y.2.size ≤ maxLen ∧ -9223372036854775808 ≤ y.1 ∧ y.1 ≤ 9223372036854775807) :
    Calls Tryz.prog 57 #[.agg #[vs, vp], .int .i64 x] w fun e w' => Told w (readO ls lp x) e w' := by
  have HB0 : Hid (Below w.heap.size w ((w.alloc (.cells #[vs, vp] 26)).alloc (.cells #[.slice none 0 0, .slice none 0 0, .string ByteArray.empty, .int .i64 0] 69))) := ((Below.refl _ _).alloc (Nat.le_refl _) _).alloc (by simp) _
  have HK : Hid (Calls Tryz.prog 35 #[.agg #[vs, vp]] ((w.alloc (.cells #[vs, vp] 26)).alloc (.cells #[.slice none 0 0, .slice none 0 0, .string ByteArray.empty, .int .i64 0] 69)) fun e w' => e = .returned (.bool (rightB ls lp)) ∧ Below ((w.alloc (.cells #[vs, vp] 26)).alloc (.cells #[.slice none 0 0, .slice none 0 0, .string ByteArray.empty, .int .i64 0] 69)).heap.size ((w.alloc (.cells #[vs, vp] 26)).alloc (.cells #[.slice none 0 0, .slice none 0 0, .string ByteArray.empty, .int .i64 0] 69)) w') := implRight_any vs vp ls lp _ (Strs.below hs HB0.out) (Pends.below hp HB0.out) h1 h2 h3 h4
  have HS : Hid (Strs w vs ls) := hs
  have HP : Hid (Pends w vp lp) := hp
  clear hs hp h3 h4
  cases hr : rightB ls lp with
  | false =>
    rw [hr] at HK
    rw [readO_form hr]
    clear hr
    go_enter Tryz.func57, Tryz.ntmps57
    go_wp2_with (go_at_call 35; refine HK.out.mono ?_; rintro e w1 ⟨rfl, hb1⟩; obtain ⟨m0, m1, m2, m3, mf⟩ := (Box4.below (box4_new w _) hb1 (by simp)).cells; have HB1 : Hid _ := hb1; clear hb1)
    refine bodyPost_ret (v := outV (.slice none 0 0) (.slice none 0 0) ByteArray.empty 1) (by simp [results, Tryz.results57, go_sem, m0, m1, m2, m3]; rfl) rfl ⟨_, _, rfl, own_zero _ _ _, ?_⟩
    have hB : Below w.heap.size w w1 := bT HB0.out HB1.out
    repeat' (first | exact hB | refine Below.setCell ?_ (by simp) _)
  | true =>
    obtain ⟨r1, r2, r3, r4, r5, r6, r7⟩ := right_pends hr
    rw [hr] at HK
    have R1 : Hid (∀ y ∈ lp, 0 ≤ y.1 ∧ y.1 < 64) := r1
    have R2 : Hid (∀ z y, lastOf lp z = some y → y.2.size ≤ 2000000) := fun z y e => (r2 y (lastOf_mem e).1).2
    have R3 : Hid (∀ t ∈ ls, t.size ≤ 2000000) := r3
    have R7 : Hid (∀ y ∈ lp, y.2.size ≤ 2000000) := r7
    have HR : Hid (rightB ls lp = true) := hr
    have hmf : ∀ (fn : Fn) (first cap : Array Value) (w : World), (Instr.makeFunc fn first cap).run Tryz.prog w = .ok (.func fn first cap) w := fun _ _ _ _ => rfl
    clear hr r1 r2 r3 r7
    by_cases hx : 0 ≤ x ∧ x < ls.length
    · have HH : Hid (∀ W, Calls Tryz.prog 64 #[.agg #[vs, vp], .int .i64 x] W fun e w' => e = .returned (.bool true) ∧ Below W.heap.size W w') := by
        obtain ⟨va, c, rfl, _⟩ := HS.out
        exact fun W => has_yes va ls.length c vp x W hx.1 hx.2
      obtain ⟨k, rfl⟩ := Int.eq_ofNat_of_zero_le hx.1
      have hk : k < ls.length := by omega
      rw [readO_ok HR.out hk]
      clear hx
      go_enter Tryz.func57, Tryz.ntmps57
      go_wp2_with (first
        | (go_at_call 35; refine HK.out.mono ?_; rintro e w1 ⟨rfl, hb1⟩; have B2 := Box2.below (box2_new w vs vp _) hb1 (by simp; omega); have B4 := Box4.below (box4_new w _) hb1 (by simp); obtain ⟨c0, c1, _⟩ := B2.cells; have hB1 : Hid (Below w.heap.size w w1) := bT HB0.out hb1; have HB2 : Hid (Box2 w1 w.heap.size vs vp) := B2; have HB4 : Hid (Box4 w1 (w.heap.size + 1)) := B4; have hz1 := hb1.size; simp at hz1; clear hb1 B2 B4)
        | (go_at_call 64; refine (HH.out _).mono ?_; rintro e w2 ⟨rfl, hb2⟩; have D2 := Box2.below HB2.out hb2 (by omega); have D4 := Box4.below HB4.out hb2 (by omega); clear c0 c1; obtain ⟨c0, c1, _⟩ := D2.cells; have hB2 : Hid (Below w.heap.size w w2) := bT hB1.out hb2; have HD2 : Hid (Box2 w2 w.heap.size vs vp) := D2; have HD4 : Hid (Box4 w2 (w.heap.size + 1)) := D4; have hz2 := hb2.size; clear hb2 D2 D4)
        | (go_at_call 50; refine (workOn_any vs vp ls lp _ (Strs.below HS.out hB2.out) (Pends.below HP.out hB2.out) h1 h2 R3.out R1.out).mono ?_; rintro e w3 ⟨gs, gm, rfl, a1, a2, a3, a4, a5, a6, a7, hb3⟩; have HA1 : Hid _ := a1; have HA2 : Hid _ := a2; have E2 := Box2.below HD2.out hb3 (by omega); have E4 := Box4.below HD4.out hb3 (by omega); clear c0 c1; obtain ⟨c0, c1, _⟩ := E2.cells; have hB3 : Hid (Below w.heap.size w w3) := bT hB2.out hb3; have HE2 : Hid (Box2 w3 w.heap.size vs vp) := E2; have HE4 : Hid (Box4 w3 (w.heap.size + 1)) := E4; have hz3 := hb3.size; clear hb3 E2 E4 a1 a2)
        | (go_at_call 28; refine (copyDisk_any vs vp ls lp _ (Strs.below HS.out hB3.out) (Pends.below HP.out hB3.out) h1 h2 R3.out R7.out).mono ?_; rintro e w4 ⟨us, up, rfl, hO, hb4⟩; obtain ⟨va, ca, vb, cb, rfl, rfl⟩ := hO.shape; have G4 := Box4.below HE4.out hb4 (by omega); have hB4 : Hid (Below w.heap.size w w4) := bT hB3.out hb4; have HG4 : Hid (Box4 w4 (w.heap.size + 1)) := G4; have HO : Hid _ := hO; have HA3 : Hid (StrsAt w4 gs 0 ls) := StrsAt.below HA1.out hb4; have HA4 : Hid (HasMap w4 gm lp.length (lastOf lp)) := HasMap.below HA2.out hb4; have hz4 := hb4.size; clear hb4 G4 hO)
        | (go_at_call 71; refine (sector_any (.slice (some ⟨gs, 0, none⟩) ls.length ls.length) gm lp.length k ls (lastOf lp) _ (StrsAt.strs HA3.out _) HA4.out hk r5 R2.out).mono ?_; rintro e w5 ⟨rfl, hb5⟩; obtain ⟨m0, m1, m2, m3, mf⟩ := (Box4.below HG4.out hb5 (by omega)).cells; have HO5 : Hid _ := Own.below HO.out hb5; have hB5 : Hid (Below w.heap.size w w5) := bT hB4.out hb5; have hz5 := hb5.size; clear hb5))
      have HSE : Hid (secD ls (lastOf lp) k = readD ls lp k) := secD_last ls lp k
      refine bodyPost_ret (v := outV (.slice va ls.length ca) (.slice vb lp.length cb) (readD ls lp k) 0) (by rw [← HSE.out]; simp [results, Tryz.results57, go_sem, m0, m1, m2, m3]) rfl ⟨_, _, rfl, ?_, ?_⟩
      · refine Own.wide (lo := w3.heap.size) (hi := w4.heap.size) ?_ (by omega) (by simp; omega)
        repeat' (first | exact HO5.out | refine Own.setCell ?_ (.inl (by simp; omega)) _)
      · repeat' (first | exact hB5.out | refine Below.setCell ?_ (by simp) _)
    · have HH : Hid (∀ W, Calls Tryz.prog 64 #[.agg #[vs, vp], .int .i64 x] W fun e w' => e = .returned (.bool false) ∧ Below W.heap.size W w') := by
        obtain ⟨va, c, rfl, _⟩ := HS.out
        exact fun W => has_no va ls.length c vp x W (by omega)
      rw [readO_range HR.out hx]
      clear hx
      go_enter Tryz.func57, Tryz.ntmps57
      go_wp2_with (first
        | (go_at_call 35; refine HK.out.mono ?_; rintro e w1 ⟨rfl, hb1⟩; have B2 := Box2.below (box2_new w vs vp _) hb1 (by simp; omega); have B4 := Box4.below (box4_new w _) hb1 (by simp); obtain ⟨c0, c1, _⟩ := B2.cells; have hB1 : Hid (Below w.heap.size w w1) := bT HB0.out hb1; have HB4 : Hid (Box4 w1 (w.heap.size + 1)) := B4; have hz1 := hb1.size; simp at hz1; clear hb1 B2 B4)
        | (go_at_call 64; refine (HH.out _).mono ?_; rintro e w2 ⟨rfl, hb2⟩; obtain ⟨m0, m1, m2, m3, mf⟩ := (Box4.below HB4.out hb2 (by omega)).cells; have hB2 : Hid (Below w.heap.size w w2) := bT hB1.out hb2; clear hb2 c0 c1))
      refine bodyPost_ret (v := outV (.slice none 0 0) (.slice none 0 0) ByteArray.empty 8) (by simp [results, Tryz.results57, go_sem, m0, m1, m2, m3]; rfl) rfl ⟨_, _, rfl, own_zero _ _ _, ?_⟩
      repeat' (first | exact hB2.out | refine Below.setCell ?_ (by simp) _)
end Go.Proofs.YtkigmpeanllimaaGreatDoor.Disk
