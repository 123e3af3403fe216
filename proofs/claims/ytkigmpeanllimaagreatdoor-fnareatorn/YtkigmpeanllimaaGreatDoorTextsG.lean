/- Laws that the proof rests on, put together: A disk that was drawn, and the model's draw of a crash. What the look at an area comes to. -/
import Derived.Test.YtkigmpeanllimaaGreatDoorDrawDisk
import Derived.Test.YtkigmpeanllimaaGreatDoorTextsF
import Derived.Test.YtkigmpeanllimaaGreatDoorImplArea
import Derived.Test.YtkigmpeanllimaaGreatDoorTextsE
/- A disk that was drawn, and the model's draw of a crash. -/
namespace Go.Proofs.YtkigmpeanllimaaGreatDoor.Disk
open Go.RowKit Go.Proofs.YtkigmpeanllimaaGreatDoor.Mem Go.Proofs.YtkigmpeanllimaaGreatDoor.Harn Go.Proofs.YtkigmpeanllimaaGreatDoor.Draw

/-- A disk that was drawn: in memory that is new since W. -/
def GotDisk (W : World) (us up : Value) (ls : List ByteArray) (lp : List (Int × ByteArray)) (W' : World) : Prop := Own W' W.heap.size W'.heap.size us up ls lp ∧ Little ls lp ∧ Below W.heap.size W W'

theorem GotDisk.below {W W' W'' : World} {us up : Value} {ls : List ByteArray} {lp : List (Int × ByteArray)} (h : GotDisk W us up ls lp W') (hb : Below W'.heap.size W' W'') : GotDisk W us up ls lp W'' :=
  ⟨(h.1.below hb).wide (Nat.le_refl _) hb.size, h.2.1, bT h.2.2 hb⟩
theorem got_mk {W w3 : World} {lo hi : Nat} {us up v0 v1 : Value} {ls : List ByteArray} {lp : List (Int × ByteArray)} (ho : Own w3 lo hi us up ls lp) (hl : Little ls lp) (hb : Below W.heap.size W w3) (h1 : W.heap.size < lo) (h2 : hi ≤ w3.heap.size) : GotDisk W us up ls lp ((w3.setCell ⟨W.heap.size, 0, none⟩ v0).setCell ⟨W.heap.size, 1, none⟩ v1) :=
  ⟨(ho.only only_set2 (fun k h3 h4 h5 => by omega)).wide (by omega) (by simp; omega), hl, (hb.setCell (p := ⟨W.heap.size, 0, none⟩) (by simp) _).setCell (p := ⟨W.heap.size, 1, none⟩) (by simp) _⟩

set_option maxRecDepth 100000 in
set_option maxHeartbeats 2000000 in
theorem drawCrash_any (W : World) (a : Option Addr) (len cap : Nat) (zs : List Int) (h : IsRow W a len cap zs) :
    Calls Tryz.prog 17 #[.slice a len cap] W fun e W' => ∃ us up ls lp vk kp, e = .returned (.tuple #[.agg #[us, up], vk]) ∧ GotDisk W us up ls lp W' ∧ Ints W' vk kp ∧ kp.length ≤ 14 := by
  have hb0 : Below W.heap.size W (W.alloc (.cells #[.slice none 0 0, .slice none 0 0] 26)) := bself _
  have HIN : Hid _ := row_below h hb0
  have HB0 : Hid (Below W.heap.size W (W.alloc (.cells #[.slice none 0 0, .slice none 0 0] 26))) := hb0
  have HR0 : Hid (Box2 (W.alloc (.cells #[.slice none 0 0, .slice none 0 0] 26)) W.heap.size (.slice none 0 0) (.slice none 0 0)) := box2_at W _ _
  clear h hb0
  go_enter Tryz.func17, Tryz.ntmps17
  go_wp2_with fail
  refine (source_any _ a len cap zs HIN.out).mono ?_
  rintro e w1 ⟨rfl, hs1, hb1⟩
  simp at hs1
  have hz1 := src_lt hs1
  have HS1 : Hid _ := hs1
  have HB1 : Hid (Below W.heap.size W w1) := bT HB0.out hb1
  have HR1 : Hid _ := Box2.below HR0.out hb1 (by simp)
  clear hs1 hb1
  go_wp2_with fail
  refine (l03Disk_any _ _ a len cap zs HS1.out).mono ?_
  rintro e w2 ⟨us, up, ls, lp, rfl, ho2, hl2, hs2, hg2⟩
  obtain ⟨va, ca, vb, cb, rfl, rfl⟩ := ho2.shape
  have h2 : Only (fun k => k = W.heap.size + 1) w1 w2 := Only.of_grown hg2 rfl
  have hz2 := h2.size
  have hq2 : Below w2.heap.size w2 (w2.alloc (.cells #[.slice va ls.length ca, .slice vb lp.length cb] 26)) := bself _
  have HS2 : Hid _ := src_below hs2 hq2 (src_lt hs2)
  have HB2 : Hid (Below W.heap.size W (w2.alloc (.cells #[.slice va ls.length ca, .slice vb lp.length cb] 26))) := bA (h2.below HB1.out (by omega) (fun k h1 h2 => by omega)) _
  have HR2 : Hid _ := Box2.below (h2.row HR1.out (by omega)) hq2 (by omega)
  have HX2 : Hid (Box2 (w2.alloc (.cells #[.slice va ls.length ca, .slice vb lp.length cb] 26)) w2.heap.size (.slice va ls.length ca) (.slice vb lp.length cb)) := box2_at w2 _ _
  have HO2 : Hid _ := Own.below ho2 hq2
  have HL2 : Hid _ := hl2
  obtain ⟨WA, hWA⟩ : ∃ WA, WA = w2.alloc (.cells #[.slice va ls.length ca, .slice vb lp.length cb] 26) := ⟨_, rfl⟩
  have hzA : WA.heap.size = w2.heap.size + 1 := by rw [hWA]; simp
  rw [← hWA] at HS2 HB2 HR2 HX2 HO2
  clear ho2 hl2 hs2 hg2 h2 hq2 HS1 HB1 HR1
  obtain ⟨z0, z1, zf⟩ := Box2.cells HX2.out
  obtain ⟨q0, q1, qf⟩ := Box2.cells HR2.out
  go_wp2_with fail
  rw [← hWA]
  clear hWA
  go_region_held3 (fun w' => w'.cell? ⟨w2.heap.size, 0, none⟩ = some (.slice va ls.length ca) ∧ w'.cell? ⟨w2.heap.size, 1, none⟩ = some (.slice vb lp.length cb))
    (first
      | (go_split_ands; refine ⟨?_, ?_⟩ <;> (first | exact k0 | exact k1))
      | (go_keep; done)
      | (go_split_ands; refine ⟨?_, ?_⟩ <;> (rw [World.cell?_setCell_other _ _ _ _ (by intro e; injection e with e _ _; omega), World.cell?_setCell_other _ _ _ _ (by intro e; injection e with e _ _; omega)]; first | exact k0 | exact k1)))
    (first | (go_at_call 48; refine (l03Keep_any _ (W.heap.size + 1) a len cap zs (src_drew HS2.out)).mono ?_; rintro e w3 ⟨vk, kp, rfl, ho3, hk3, hs3, hq3⟩; have h3 : Only (fun k => k = W.heap.size + 1) WA w3 := Only.trans (Only.of_below _ (bD (Below.refl _ _))) hq3; have hz3 := h3.size; have k0 := (h3.cell (a := ⟨w2.heap.size, 0, none⟩) (by simp only; omega) (by simp only; omega)).trans z0; have k1 := (h3.cell (a := ⟨w2.heap.size, 1, none⟩) (by simp only; omega) (by simp only; omega)).trans z1; have HB3 : Hid (Below W.heap.size W w3) := h3.below HB2.out (by omega) (fun k h1 h2 => by omega); have HO3 : Hid _ := Own.only HO2.out h3 (fun k h1 h2 h3 => by omega); have HK3 : Hid _ := ho3; obtain ⟨x0, x1, xf⟩ := Box2.cells (h3.row HR2.out (by omega)); clear ho3 hs3 hq3 h3))
  go_wp2_with fail
  exact bodyPost_ret (v := .tuple #[.agg #[.slice va ls.length ca, .slice vb lp.length cb], vk]) (by simp [results, Tryz.results17, go_sem, x0, x1]) rfl ⟨_, _, ls, lp, vk, kp, rfl, got_mk HO3.out HL2.out HB3.out (by omega) (by omega), (OwnI.only HK3.out only_set2 (fun k h1 h2 => by simp at h1; omega)).ints, hk3⟩
end Go.Proofs.YtkigmpeanllimaaGreatDoor.Disk

/- What the look at an area comes to. -/
namespace Go.Proofs.YtkigmpeanllimaaGreatDoor.Disk
open Go.RowKit Go.Proofs.YtkigmpeanllimaaGreatDoor.Mem Go.Proofs.YtkigmpeanllimaaGreatDoor.Harn Go.Proofs.YtkigmpeanllimaaGreatDoor.DiskP Go.Proofs.YtkigmpeanllimaaGreatDoor.Sent

theorem codeE_of {c : Int} {g : Nat} (hc : c = 3 ∨ c = 4 ∨ c = 5) (h : errOf c = some g) : codeE (some g) = c ∧ g ∈ sentL := by
  rcases hc with rfl | rfl | rfl
  · obtain rfl : 4 = g := Option.some.inj h
    exact ⟨rfl, by simp [sentL]⟩
  · obtain rfl : 1 = g := Option.some.inj h
    exact ⟨rfl, by simp [sentL]⟩
  · obtain rfl : 2 = g := Option.some.inj h
    exact ⟨rfl, by simp [sentL]⟩
/-- What the look at an area comes to. -/
theorem areaR_cases (ls : List ByteArray) (lp : List (Int × ByteArray)) : (∃ (g : Int) (s n : Nat) (t : ByteArray), rightB ls lp = true ∧ areaR ls lp = ((g, (s : Int), (n : Int)), t, none) ∧ readAO ls lp = ⟨ls, lp, t, g, 0⟩ ∧ 0 ≤ g ∧ s ≤ 1 ∧ n ≤ 64 * halfN ls ∧ seenO ls lp = (g, (s : Int), (n : Int), 0)) ∨ (∃ g s n t ge, areaR ls lp = ((g, s, n), t, some ge) ∧ readAO ls lp = illA (codeE (some ge)) ∧ ge ∈ sentL ∧ codeE (some ge) ≠ 0) := by
  cases hr : rightB ls lp
  · exact .inr ⟨_, _, _, _, _, areaR_form hr, readAO_form hr, by simp [sentL], by decide⟩
  · rcases seen_cases ls lp with ⟨g, s, n, hsn, hg0, hs1, hn1, _⟩ | hsn
    · have h := areaR_ok hr hsn
      cases hR : sideK (readD ls lp) (halfN ls) (firstN ls s) n with
      | none =>
        rw [hR] at h
        exact .inr ⟨_, _, _, _, _, h, readAO_none hr hsn hR, by simp [sentL], by decide⟩
      | some t =>
        rw [hR] at h
        exact .inl ⟨g, s, n, t, rfl, h, readAO_some hr hsn hR, hg0, hs1, hn1, hsn⟩
    · obtain ⟨cd, hsn, hcd⟩ : ∃ cd : Int, seenO ls lp = (0, 0, 0, cd) ∧ (cd = 3 ∨ cd = 4 ∨ cd = 5) := by
        rcases hsn with h | h | h
        · exact ⟨3, h, .inl rfl⟩
        · exact ⟨4, h, .inr (.inl rfl)⟩
        · exact ⟨5, h, .inr (.inr rfl)⟩
      obtain ⟨ge, hge⟩ : ∃ ge, errOf cd = some ge := by rcases hcd with rfl | rfl | rfl <;> exact ⟨_, rfl⟩
      obtain ⟨h1, h2⟩ := codeE_of hcd hge
      have h := areaR_code hr hsn (by omega)
      rw [hge] at h
      exact .inr ⟨_, _, _, _, ge, h, by rw [h1]; exact readAO_code hr hsn (by omega), h2, by rw [h1]; omega⟩

end Go.Proofs.YtkigmpeanllimaaGreatDoor.Disk
