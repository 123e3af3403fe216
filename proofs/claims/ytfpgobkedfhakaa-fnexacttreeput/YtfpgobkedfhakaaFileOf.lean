/- What FileOf answers, on both sides. -/
import Derived.Test.YtfpgobkedfhakaaImplTree2
import Derived.Test.YtfpgobkedfhakaaCutCall
import Derived.Test.YtfpgobkedfhakaaCopyFile
namespace Go.Proofs.Ytfpgobkedfhakaa.Tre
open Go.RowKit Go.Proofs.Ytfpgobkedfhakaa.Mem Go.Proofs.Ytfpgobkedfhakaa.Gf Go.Proofs.Ytfpgobkedfhakaa.Harn Go.Proofs.Ytfpgobkedfhakaa.Mark

/-- The place of a path, or -1. -/
def atL (l : List Fl) (x : ByteArray) : Int := match l.findIdx? (fun f => f.p.toList == x.toList) with
  | some i => (i : Int)
  | none => -1
theorem atL_hit {l : List Fl} {x : ByteArray} {k : Nat} (hk : k < l.length) (h : (l[k].p.toList == x.toList) = true) (hn : ∀ j (hj : j < l.length), j < k → (l[j].p.toList == x.toList) = false) : atL l x = (k : Int) := by
  unfold atL
  rw [(List.findIdx?_eq_some_iff_getElem (i := k)).2 ⟨hk, h, fun j hj => by rw [hn j (by omega) hj]; simp⟩]
theorem atL_miss {l : List Fl} {x : ByteArray} (hn : ∀ j (hj : j < l.length), (l[j].p.toList == x.toList) = false) : atL l x = -1 := by
  unfold atL
  rw [List.findIdx?_eq_none_iff.2 (fun f hf => by
    obtain ⟨j, hj, rfl⟩ := List.getElem_of_mem hf
    exact hn j hj)]
def fileOf (l : List Fl) (x : ByteArray) : Fl := if treeR l then (l.find? fun f => f.p.toList == x.toList).getD Fl.zero else Fl.zero

set_option maxRecDepth 100000 in
set_option maxHeartbeats 1000000 in
theorem at_any (v : Value) (l : List Fl) (x : ByteArray) (w : World) (h : Files w v l) (hn : l.length ≤ maxLen) :
    Calls Try.prog 98 #[.agg #[v], .string x] w fun e w' => e = .returned (.int .i64 (atL l x)) ∧ Below w.heap.size w w' := by
  obtain ⟨a, cap, rfl, hc⟩ := h
  unfold maxLen at hn
  have HC : Hid (RC w a l) := hc
  clear hc
  go_enter Try.func98, Try.ntmps98
  go_wp2
  go_loopw [5] (fun i wr => ∃ k : Nat, k ≤ l.length ∧ i = .int .i64 k ∧ wr = w.alloc (.cells #[.slice a l.length cap] 31) ∧ Hid (∀ j (hj : j < l.length), j < k → (l[j].p.toList == x.toList) = false)) (fun i _ => l.length - (intOf i).toNat)
  case atStart => exact ⟨0, Nat.zero_le _, rfl, rfl, fun j h h2 => absurd h2 (Nat.not_lt_zero j)⟩
  case round =>
    obtain ⟨k, hk, rfl, rfl, HK⟩ := hrel
    by_cases hlt : k < l.length
    · obtain ⟨b, o, rfl, d1, d2, d3⟩ := HC.out k hlt
      have l1 := World.block_lt_of_cell? w _ d1
      simp only at l1
      have hbel : Below w.heap.size w (w.alloc (.cells #[.slice (some ⟨b, o, none⟩) l.length cap] 31)) := (Below.refl _ _).alloc (Nat.le_refl _) _
      have c1 : (w.alloc (.cells #[.slice (some ⟨b, o, none⟩) l.length cap] 31)).cell? ⟨b, o + k * 3, none⟩ = _ := (hbel.cell l1).trans d1
      have p1 : (k : Int) < (l.length : Int) := by omega
      have HK2 : Hid ((l[k].p.toList == x.toList) = false → ∀ j (hj : j < l.length), j < k + 1 → (l[j].p.toList == x.toList) = false) := fun h0 j hj hjk => by
        by_cases e : j = k
        · subst e; exact h0
        · exact HK.out j hj (by omega)
      have HHIT : Hid ((l[k].p.toList == x.toList) = true → atL l x = (k : Int)) := fun h0 => atL_hit hlt h0 (fun j hj hjk => HK.out j hj hjk)
      generalize l[k].p = y at *
      clear d1 d2 d3 hbel
      cases he : (y.toList == x.toList)
      · have HK3 := hidT (HK2.out he)
        clear HK2 HHIT
        go_wp2
        exact ⟨⟨k + 1, by omega, by go_num, True.intro, HK3⟩, by simp [intOf]; omega⟩
      · have HA := hidT (HHIT.out he)
        clear HK2 HHIT
        go_wp2
        go_ret
        exact ⟨by rw [HA.out]; rfl, (Below.refl _ _).alloc (Nat.le_refl _) _⟩
    · obtain rfl : k = l.length := by omega
      have HA := hidT (atL_miss fun j hj => HK.out j hj hj)
      clear HK
      go_wp2
      go_ret
      exact ⟨by rw [HA.out]; rfl, (Below.refl _ _).alloc (Nat.le_refl _) _⟩
theorem atL_cases (l : List Fl) (x : ByteArray) : (atL l x = -1 ∧ l.find? (fun f => f.p.toList == x.toList) = none) ∨ ∃ k, ∃ h : k < l.length, atL l x = (k : Int) ∧ l.find? (fun f => f.p.toList == x.toList) = some l[k] ∧ (l[k].p.toList == x.toList) = true := by
  unfold atL
  cases h : l.findIdx? (fun f => f.p.toList == x.toList) with
  | none => exact .inl ⟨rfl, by rw [List.find?_eq_none]; intro f hf; rw [List.findIdx?_eq_none_iff.1 h f hf]; simp⟩
  | some k =>
    obtain ⟨h1, h2, h3⟩ := List.findIdx?_eq_some_iff_getElem.1 h
    exact .inr ⟨k, h1, rfl, List.find?_eq_some_iff_getElem.2 ⟨h2, k, h1, rfl, fun j hj => by have := h3 j hj; simpa using this⟩, h2⟩
theorem fileOf_big {l : List Fl} {x : ByteArray} (h : 8000 < x.size) : fileOf l x = Fl.zero := by
  unfold fileOf
  split
  · rename_i hr
    rcases atL_cases l x with ⟨_, e⟩ | ⟨k, hk, _, e, he⟩
    · rw [e]; rfl
    · exfalso
      have := (fileR_le (goodAt_file (treeR_at hr k hk))).1
      have e2 : l[k].p.toList = x.toList := by simpa using he
      have e3 : l[k].p.data.toList.length = x.data.toList.length := by rw [← Lib.toList_data, ← Lib.toList_data, e2]
      have e4 : l[k].p.size = x.size := e3
      omega
  · rfl
set_option maxRecDepth 100000 in
set_option maxHeartbeats 2000000 in
theorem implFO_any (v : Value) (l : List Fl) (x : ByteArray) (w : World) (h : Files w v l) (hn : l.length ≤ maxLen) (hs : ∀ y ∈ l, y.p.size ≤ maxLen ∧ y.d.size ≤ maxLen) (hcap : ∀ a n c, v = .slice a n c → n ≤ c) :
    Calls Try.prog 74 #[.agg #[v], .string x] w fun e w' => e = .returned (fileOf l x).val ∧ Below w.heap.size w w' := by
  have K2 : Hid (∀ W, Files W v l → Calls Try.prog 47 #[.agg #[v]] W fun e w' => e = .returned (.bool (treeR l)) ∧ Below W.heap.size W w') := fun W hW => implTR_any v l W hW hn hs hcap
  have hfo : fileOf l x = if treeR l then (l.find? fun f => f.p.toList == x.toList).getD Fl.zero else Fl.zero := rfl
  have KC : Hid (treeR l = true → ∀ k (h : k < l.length) W, Calls Try.prog 88 #[.agg #[.string l[k].p, .int .i64 l[k].m, .string l[k].d]] W fun e w' => e = .returned (.agg #[.string l[k].p, .int .i64 l[k].m, .string l[k].d]) ∧ Below W.heap.size W w') := fun ht k h W => by
    have := fileR_le (goodAt_file (treeR_at ht k h))
    exact copyFile_any l[k] W (by omega) (by omega)
  have HFI : Hid (∀ k (h : k < l.length), (l[k].p.toList == x.toList) = true → (∀ j (hj : j < l.length), j < k → (l[j].p.toList == x.toList) = false) → (l.find? fun f => f.p.toList == x.toList) = some l[k]) := fun k h h1 h2 => List.find?_eq_some_iff_getElem.2 ⟨h1, k, h, rfl, fun j hj => by rw [h2 j (by omega) hj]; rfl⟩
  have HFN : Hid ((∀ j (hj : j < l.length), (l[j].p.toList == x.toList) = false) → (l.find? fun f => f.p.toList == x.toList) = none) := fun h => List.find?_eq_none.2 fun f hf => by
    obtain ⟨j, hj, rfl⟩ := List.getElem_of_mem hf
    rw [h j hj]; simp
  have HF := hidT h
  unfold Fl.val
  generalize fileOf l x = r at *
  generalize (l.find? fun f => f.p.toList == x.toList) = fo at *
  generalize treeR l = z at *
  have hX0 : HasRow ((w.alloc (.cells #[v] 31)).alloc (.cells #[.string { data := #[] }, .int .i64 0, .string { data := #[] }] 36)) (w.heap.size + 1) [.string { data := #[] }, .int .i64 0, .string { data := #[] }] 36 := Sha.row_new_at (w.alloc (.cells #[v] 31)) [.string { data := #[] }, .int .i64 0, .string { data := #[] }] _ (w.heap.size + 1) (by simp)
  have hB0 : Below w.heap.size w ((w.alloc (.cells #[v] 31)).alloc (.cells #[.string { data := #[] }, .int .i64 0, .string { data := #[] }] 36)) := ((Below.refl _ _).alloc (Nat.le_refl _) _).alloc (by simp) _
  have hq : ((w.alloc (.cells #[v] 31)).alloc (.cells #[.string { data := #[] }, .int .i64 0, .string { data := #[] }] 36)).cell? ⟨w.heap.size, 0, none⟩ = some v := by simp [World.cell?_alloc_lt]
  have hl0 : w.heap.size + 1 < ((w.alloc (.cells #[v] 31)).alloc (.cells #[.string { data := #[] }, .int .i64 0, .string { data := #[] }] 36)).heap.size := by simp
  unfold maxLen at hn
  clear h hs hcap
  go_enter Try.func74, Try.ntmps74
  obtain ⟨W0, hW0⟩ : ∃ W0, W0 = (w.alloc (.cells #[v] 31)).alloc (.cells #[.string { data := #[] }, .int .i64 0, .string { data := #[] }] 36) := ⟨_, rfl⟩
  go_wp2_with fail
  rw [← hW0] at hX0 hB0 hq hl0 ⊢
  clear hW0
  refine (K2.out _ (Files.below HF.out hB0)).mono ?_
  rintro e w1 ⟨rfl, hb1⟩
  have hX1 := Sha.row_below hX0 hb1 hl0
  have hq1 := (hb1.cell (p := ⟨w.heap.size, 0, none⟩) (World.block_lt_of_cell? W0 _ hq)).trans hq
  have hl1 := Nat.lt_of_lt_of_le hl0 hb1.size
  have HB1 := hidT (hB0.trans (hb1.mono hB0.size))
  clear hb1 hX0 hB0 hq hl0 K2
  cases z
  · have hr : r = Fl.zero := by rw [hfo]; simp
    subst hr
    clear hfo
    have o0 : w1.cell? ⟨w.heap.size + 1, 0, none⟩ = some (.string { data := #[] }) := Mem.cell_of_row hX1 0
    have o1 : w1.cell? ⟨w.heap.size + 1, 1, none⟩ = some (.int .i64 0) := Mem.cell_of_row hX1 1
    have o2 : w1.cell? ⟨w.heap.size + 1, 2, none⟩ = some (.string { data := #[] }) := Mem.cell_of_row hX1 2
    have f0 := Mem.frozen_of_row hX1 0
    have f1 := Mem.frozen_of_row hX1 1
    have f2 := Mem.frozen_of_row hX1 2
    go_wp2
    exact bodyPost_ret (v := .agg #[.string { data := #[] }, .int .i64 0, .string { data := #[] }]) (by simp [results, Try.results74, go_sem, o0, o1, o2]) rfl ⟨rfl, ((HB1.out.setCell (p := ⟨w.heap.size + 1, 0, none⟩) (by simp) _).setCell (p := ⟨w.heap.size + 1, 1, none⟩) (by simp) _).setCell (p := ⟨w.heap.size + 1, 2, none⟩) (by simp) _⟩
  · have HFO : Hid (r = fo.getD Fl.zero) := by unfold Hid; rw [hfo]; simp
    have KC' := hidT (KC.out rfl)
    clear hfo KC
    obtain ⟨a, cap, rfl, hc⟩ := HF.out
    have HC : Hid (RC w a l) := hc
    have HX := hidT hX1
    clear hc HF hX1
    go_wp2
    go_loopw [14] (fun i wr => ∃ k : Nat, k ≤ l.length ∧ i = .int .i64 k ∧ Below w.heap.size w wr ∧ w.heap.size + 1 < wr.heap.size ∧ HasRow wr (w.heap.size + 1) [.string { data := #[] }, .int .i64 0, .string { data := #[] }] 36 ∧ Hid (∀ j (hj : j < l.length), j < k → (l[j].p.toList == x.toList) = false)) (fun i _ => l.length - (intOf i).toNat)
    case atStart => exact ⟨0, Nat.zero_le _, rfl, HB1.out, hl1, HX.out, fun j h h2 => absurd h2 (Nat.not_lt_zero j)⟩
    case round =>
      clear HX HB1 hq1 hl1
      obtain ⟨k, hk, rfl, hbel, hl1, hrow, HK⟩ := hrel
      have HR := hidT hrow
      by_cases hlt : k < l.length
      · obtain ⟨b, o, rfl, d1, d2, d3⟩ := HC.out k hlt
        have c1 : wr.cell? ⟨b, o + k * 3, none⟩ = _ := (hbel.cell (World.block_lt_of_cell? w _ d1)).trans d1
        have c2 : wr.cell? ⟨b, o + k * 3 + 1, none⟩ = _ := (hbel.cell (World.block_lt_of_cell? w _ d2)).trans d2
        have c3 : wr.cell? ⟨b, o + k * 3 + 2, none⟩ = _ := (hbel.cell (World.block_lt_of_cell? w _ d3)).trans d3
        have p1 : (k : Int) < (l.length : Int) := by omega
        have p0 : (0 : Int) ≤ (k : Int) := by omega
        have HK2 : Hid ((l[k].p.toList == x.toList) = false → ∀ j (hj : j < l.length), j < k + 1 → (l[j].p.toList == x.toList) = false) := fun h0 j hj hjk => by
          by_cases e : j = k
          · subst e; exact h0
          · exact HK.out j hj (by omega)
        have HHIT : Hid ((l[k].p.toList == x.toList) = true → r = l[k]) := fun h0 => by
          rw [HFO.out, HFI.out k hlt h0 (fun j hj hjk => HK.out j hj hjk)]; rfl
        have KC2 := hidT (KC'.out k hlt)
        have hzz := hbel.size
        clear d1 d2 d3 hrow
        cases he : (l[k].p.toList == x.toList)
        · have HK3 := hidT (HK2.out he)
          clear HK2 HHIT KC2
          generalize l[k].p = y1 at *
          generalize l[k].m = y2 at *
          generalize l[k].d = y3 at *
          have HB := hidT (hbel.alloc hzz (.cells #[.string y1, .int .i64 y2, .string y3] 36))
          have HR2 := hidT (Sha.row_alloc HR.out (.cells #[.string y1, .int .i64 y2, .string y3] 36))
          clear hbel HR
          go_wp2
          go_roundw
          case rel => exact ⟨k + 1, by omega, by go_num, HB.out, by simp; omega, HR2.out, HK3⟩
          case measure => simp [intOf]; omega
        · have hr := HHIT.out he
          have h1 : r.p = l[k].p := by rw [hr]
          have h2 : r.m = l[k].m := by rw [hr]
          have h3 : r.d = l[k].d := by rw [hr]
          have H1 := hidT h1
          have H2 := hidT h2
          have H3 := hidT h3
          clear HK2 HHIT h1 h2 h3 hr HFO HFI
          generalize l[k].p = y1 at *
          generalize l[k].m = y2 at *
          generalize l[k].d = y3 at *
          have HB := hidT (hbel.alloc hzz (.cells #[.string y1, .int .i64 y2, .string y3] 36))
          have HR2 := hidT (Sha.row_alloc HR.out (.cells #[.string y1, .int .i64 y2, .string y3] 36))
          clear hbel HR
          go_wp2_with fail
          refine (KC2.out _).mono ?_
          rintro e w2 ⟨rfl, hb2⟩
          have hX2 := Sha.row_below HR2.out hb2 (by simp; omega)
          have HB2 := hidT (HB.out.trans (hb2.mono HB.out.size))
          have o0 : w2.cell? ⟨w.heap.size + 1, 0, none⟩ = some (.string { data := #[] }) := Mem.cell_of_row hX2 0
          have o1 : w2.cell? ⟨w.heap.size + 1, 1, none⟩ = some (.int .i64 0) := Mem.cell_of_row hX2 1
          have o2 : w2.cell? ⟨w.heap.size + 1, 2, none⟩ = some (.string { data := #[] }) := Mem.cell_of_row hX2 2
          have f0 := Mem.frozen_of_row hX2 0
          have f1 := Mem.frozen_of_row hX2 1
          have f2 := Mem.frozen_of_row hX2 2
          clear hX2 hb2 HB
          go_wp2
          exact bodyPost_ret (v := .agg #[.string y1, .int .i64 y2, .string y3]) (by simp [results, Try.results74, go_sem, o0, o1, o2]) rfl ⟨by rw [H1.out, H2.out, H3.out], ((HB2.out.setCell (p := ⟨w.heap.size + 1, 0, none⟩) (by simp) _).setCell (p := ⟨w.heap.size + 1, 1, none⟩) (by simp) _).setCell (p := ⟨w.heap.size + 1, 2, none⟩) (by simp) _⟩
      · obtain rfl : k = l.length := by omega
        have hr : r = Fl.zero := by rw [HFO.out, HFN.out fun j hj => HK.out j hj hj]; rfl
        subst hr
        have HB := hidT hbel
        have o0 : wr.cell? ⟨w.heap.size + 1, 0, none⟩ = some (.string { data := #[] }) := Mem.cell_of_row hrow 0
        have o1 : wr.cell? ⟨w.heap.size + 1, 1, none⟩ = some (.int .i64 0) := Mem.cell_of_row hrow 1
        have o2 : wr.cell? ⟨w.heap.size + 1, 2, none⟩ = some (.string { data := #[] }) := Mem.cell_of_row hrow 2
        have f0 := Mem.frozen_of_row hrow 0
        have f1 := Mem.frozen_of_row hrow 1
        have f2 := Mem.frozen_of_row hrow 2
        clear hbel hrow HFI HFN HFO KC' HK
        go_wp2
        exact bodyPost_ret (v := .agg #[.string { data := #[] }, .int .i64 0, .string { data := #[] }]) (by simp [results, Try.results74, go_sem, o0, o1, o2]) rfl ⟨rfl, ((HB.out.setCell (p := ⟨w.heap.size + 1, 0, none⟩) (by simp) _).setCell (p := ⟨w.heap.size + 1, 1, none⟩) (by simp) _).setCell (p := ⟨w.heap.size + 1, 2, none⟩) (by simp) _⟩
end Go.Proofs.Ytfpgobkedfhakaa.Tre
