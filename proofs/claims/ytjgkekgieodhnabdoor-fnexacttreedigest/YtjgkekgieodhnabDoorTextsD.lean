/- Laws that the proof rests on, put together: Trees, copied, compared, sized by the laws' own functions. Trees and files that came in, opened. -/
import Derived.Test.YtjgkekgieodhnabDoorHarnFile2
import Derived.Test.YtjgkekgieodhnabDoorTextsB
import Derived.Deep.Slices
/- Trees, copied, compared, sized by the laws' own functions. -/
namespace Go.Proofs.YtjgkekgieodhnabDoor.Tre
open Go.RowKit Go.Proofs.YtjgkekgieodhnabDoor.Mem Go.Proofs.YtjgkekgieodhnabDoor.Mark Go.Proofs.YtjgkekgieodhnabDoor.Harn

theorem hidH {p : Prop} (h : p) : Hid p := h
theorem FilesAt.lt {W : World} {g o : Nat} {l : List Fl} (h : FilesAt W g o l) (h0 : 0 < l.length) : g < W.heap.size := World.block_lt_of_cell? W _ (h 0 h0).1.1
theorem FilesAt.other {W : World} {g o : Nat} {l : List Fl} (h : FilesAt W g o l) (a : Addr) (v : Value) (hg : g ≠ a.block) : FilesAt (W.setCell a v) g o l := fun j hj => by
  obtain ⟨⟨h1, h2, h3⟩, h4, h5, h6⟩ := h j hj
  have ne : ∀ q, a ≠ (⟨g, q, none⟩ : Addr) := fun q e => hg (by rw [e])
  refine ⟨⟨?_, ?_, ?_⟩, by simpa using h4, by simpa using h5, by simpa using h6⟩
  · rw [World.cell?_setCell_other _ _ _ _ (ne _)]; exact h1
  · rw [World.cell?_setCell_other _ _ _ _ (ne _)]; exact h2
  · rw [World.cell?_setCell_other _ _ _ _ (ne _)]; exact h3
theorem szTree_any (v : Value) (l : List Fl) (left : Nat) (w : World) (h : Files w v l) (hn : l.length ≤ maxLen) (hl : left ≤ 1048576) (hs : ∀ y ∈ l, y.p.size ≤ maxLen ∧ y.d.size ≤ maxLen) :
    Calls Tryd.prog 4 #[.agg #[v], .int .i64 (left : Int)] w fun e w' => Below w.heap.size w w' ∧ ((∃ r : Nat, e = .returned (.int .i64 (r : Int)) ∧ r + l.length + wtF l = left) ∨ (e = .returned (.int .i64 (-1)) ∧ left < l.length + wtF l)) := by
  have HC : Hid (∀ W, Files W v l → Calls Tryd.prog 9 #[v, .int .i64 (left : Int)] W fun e w' => Below W.heap.size W w' ∧ ((∃ r : Nat, e = .returned (.int .i64 (r : Int)) ∧ r + l.length + wtF l = left) ∨ (e = .returned (.int .i64 (-1)) ∧ left < l.length + wtF l))) := fun W hW => szFiles_any v l left W hW hn hl hs
  have HF := hidH h
  have hl0 := hl
  clear h hn hs hl0
  go_enter Tryd.func4, Tryd.ntmps4
  go_wp2_with fail
  refine (HC.out _ (Files.below HF.out ((Below.refl _ _).alloc (Nat.le_refl _) _))).mono ?_
  rintro e w1 ⟨hb1, hr⟩
  have HB := hidH (bstep ((Below.refl w.heap.size w).alloc (Nat.le_refl _) _) hb1)
  clear hb1
  rcases hr with ⟨r, rfl, h2⟩ | ⟨rfl, h2⟩
  · go_wp2
    go_ret
    exact ⟨HB.out, .inl ⟨r, rfl, h2⟩⟩
  · go_wp2
    go_ret
    exact ⟨HB.out, .inr ⟨rfl, h2⟩⟩
theorem toTree_any (v : Value) (l : List Fl) (w : World) (h : Files w v l) (hn : l.length ≤ 1100000) :
    Calls Tryd.prog 6 #[.agg #[v]] w fun e w' => ∃ g, e = .returned (.agg #[.slice (some ⟨g, 0, none⟩) l.length l.length]) ∧ FilesAt w' g 0 l ∧ w.heap.size ≤ g ∧ g < w'.heap.size ∧ Below w.heap.size w w' := by
  have HC : Hid (∀ W, Files W v l → Calls Tryd.prog 13 #[v] W fun e w' => e = .returned (.slice (some ⟨W.heap.size, 0, none⟩) l.length l.length) ∧ FilesAt w' W.heap.size 0 l ∧ Below W.heap.size W w' ∧ W.heap.size < w'.heap.size) := fun W hW => toFiles_any v l W hW hn
  have HF := hidH h
  clear h hn
  go_enter Tryd.func6, Tryd.ntmps6
  go_wp2_with fail
  refine (HC.out _ (Files.below HF.out ((((Below.refl _ _).alloc (Nat.le_refl _) _).alloc (by simp) _).alloc (by simp; omega) _))).mono ?_
  rintro e w1 ⟨rfl, hr, hb1, hz1⟩
  obtain ⟨hcc, hff⟩ := bcell hb1
  simp at hcc hff hz1
  have HR := hidH hr
  have HB := hidH (Below.trans ((((Below.refl w.heap.size w).alloc (Nat.le_refl _) (.cells #[v] 24)).alloc (by simp) (.cells #[.slice none 0 0] 29)).alloc (by simp; omega) (.cells #[.slice none 0 0] 29)) (hb1.mono (by simp; omega)))
  clear hb1 hr
  go_wp2
  exact bodyPost_ret (v := .agg #[.slice (some ⟨w.heap.size + 1 + 1 + 1, 0, none⟩) l.length l.length]) (by simp [results, Tryd.results6, go_sem, hcc] <;> omega) rfl ⟨_, rfl, by
    have := HR.out
    simp at this
    exact (this.other ⟨w.heap.size + 1 + 1, 0, none⟩ _ (by simp)).other ⟨w.heap.size + 1, 0, none⟩ _ (by simp <;> omega), by omega, by simp; omega, ((HB.out.setCell (p := ⟨w.heap.size + 1 + 1, 0, none⟩) (by simp; omega) _).setCell (p := ⟨w.heap.size + 1, 0, none⟩) (by simp) _)⟩
set_option maxHeartbeats 1000000 in
theorem eqTree_any (v u : Value) (l : List Fl) (w : World) (h : Files w v l) (h2 : Files w u l) (hn : l.length ≤ 1100000) :
    Calls Tryd.prog 8 #[.agg #[v], .agg #[u]] w fun e w' => e = .returned (.bool true) ∧ Below w.heap.size w w' := by
  have HC : Hid (∀ W, Files W v l → Files W u l → Calls Tryd.prog 17 #[v, u] W fun e w' => e = .returned (.bool true) ∧ Below W.heap.size W w') := fun W hW hW2 => eqFiles_any v u l W hW hW2 hn
  have HF := hidH h
  have HF2 := hidH h2
  clear h hn h2
  go_enter Tryd.func8, Tryd.ntmps8
  go_wp2_with fail
  refine (HC.out _ (Files.below HF.out (((Below.refl _ _).alloc (Nat.le_refl _) _).alloc (by simp) _)) (Files.below HF2.out (((Below.refl _ _).alloc (Nat.le_refl _) _).alloc (by simp) _))).mono ?_
  rintro e w1 ⟨rfl, hb1⟩
  go_wp2
  go_ret
  exact ⟨rfl, bstep (((Below.refl _ _).alloc (Nat.le_refl _) _).alloc (by simp) _) hb1⟩
end Go.Proofs.YtjgkekgieodhnabDoor.Tre

/- Trees and files that came in, opened. -/
namespace Go.Proofs.YtjgkekgieodhnabDoor.Tre
open Go.ChangeShapes Go.WideShapes Go.ChangeAt Go.RowKit Go.Deep Go.Proofs.YtjgkekgieodhnabDoor.Harn
variable {H : Type} {enc : TypeId × Value → H}

theorem array1 {α : Type} {cs : Array α} (h : cs.size = 1) : ∃ c0, cs = #[c0] := by
  obtain ⟨l⟩ := cs
  match l, h with
  | [c0], _ => exact ⟨c0, rfl⟩
theorem array3 {α : Type} {cs : Array α} (h : cs.size = 3) : ∃ c0 c1 c2, cs = #[c0, c1, c2] := by
  obtain ⟨l⟩ := cs
  match l, h with
  | [c0, c1, c2], _ => exact ⟨c0, c1, c2, rfl⟩
theorem list1 {α : Type} {xs : List α} (h : xs.length = 1) : ∃ c0, xs = [c0] := by
  match xs, h with
  | [c0], _ => exact ⟨c0, rfl⟩
theorem list3 {α : Type} {xs : List α} (h : xs.length = 3) : ∃ c0 c1 c2, xs = [c0, c1, c2] := by
  match xs, h with
  | [c0, c1, c2], _ => exact ⟨c0, c1, c2, rfl⟩

def okF (y : Fl) : Prop := y.p.size ≤ maxLen ∧ y.d.size ≤ maxLen ∧ -9223372036854775808 ≤ y.m ∧ y.m ≤ 9223372036854775807
set_option maxRecDepth 100000 in
/-- The three cells of a file. -/
theorem file_cells {W : World} {sp : Nat → Bool} {fuel : Nat} {cs : List Value} {x : DataW H × List MemPlace} (hl : cs.length = 3) (h : DataW.trod enc Tryd.prog W 0 sp true fuel 40 cs = some x) :
    ∃ f : Fl, cs = [.string f.p, .int .i64 f.m, .string f.d] ∧ okF f := by
  have k1 : Tryd.prog.cellsOf 2 = 1 := by kernel_rfl
  have k3 : Tryd.prog.cellsOf 9 = 1 := by kernel_rfl
  obtain ⟨c0, c1, c2, rfl⟩ : ∃ c0 c1 c2, cs = [c0, c1, c2] := list3 hl
  obtain ⟨xs, n, _, _, _, hlen, hf⟩ := DataW.trod_struct Tryd.underlying40 h
  obtain ⟨y0, y1, y2, rfl⟩ := list3 (hlen.trans rfl)
  have h0 : DataW.trod enc Tryd.prog W 0 sp true n 9 (([c0, c1, c2].drop 0).take (Tryd.prog.cellsOf 9)) = some y0 := hf 0 _ rfl
  have h1 : DataW.trod enc Tryd.prog W 0 sp true n 2 (([c0, c1, c2].drop 1).take (Tryd.prog.cellsOf 2)) = some y1 := hf 1 _ rfl
  have h2 : DataW.trod enc Tryd.prog W 0 sp true n 9 (([c0, c1, c2].drop 2).take (Tryd.prog.cellsOf 9)) = some y2 := hf 2 _ rfl
  rw [k3] at h0 h2
  rw [k1] at h1
  obtain ⟨p, e0, _, hp⟩ := DataW.trod_string Tryd.underlying9 h0
  obtain ⟨m, e1, _, hm⟩ := DataW.trod_int Tryd.underlying2 h1
  obtain ⟨d, e2, _, hd⟩ := DataW.trod_string Tryd.underlying9 h2
  simp at e0 e1 e2
  subst e0 e1 e2
  have hb := bounds_i64 hm
  exact ⟨⟨p, m, d⟩, rfl, hp, hd, hb.1, hb.2⟩
set_option maxRecDepth 100000 in
theorem open_files_at {W : World} {sp : Nat → Bool} {fuel : Nat} {v : Value} {x : DataW H × List MemPlace}
    (h : DataW.trod enc Tryd.prog W 0 sp true fuel 22 [v] = some x) : ∃ l, Files W v l ∧ l.length ≤ maxLen ∧ ∀ y ∈ l, okF y := by
  have ce : Tryd.prog.cellsOf 40 = 3 := by kernel_rfl
  rcases open_slice Tryd.underlying22 h with ⟨hcs, _⟩ | ⟨a, len, cap, m, n, D, Pl, hcs, hb, hl, hm, hmm, _, hx⟩
  · simp at hcs
    exact ⟨[], ⟨none, 0, hcs, fun j hj => by simp at hj⟩, by simp, by simp⟩
  · simp at hcs
    have hlm : len ≤ m := by rw [hmm]; split <;> omega
    have each : ∀ i, i < len → ∃ f : Fl, W.cell? (a.add (i * 3)) = some (.string f.p) ∧ W.cell? (a.add (i * 3 + 1)) = some (.int .i64 f.m) ∧ W.cell? (a.add (i * 3 + 2)) = some (.string f.d) ∧ okF f := by
      intro i hi
      obtain ⟨cs', h1, h2⟩ := hx i (by omega)
      rw [ce] at h1
      obtain ⟨_, hlen, hcell⟩ := World.cells?_some h1
      obtain ⟨f, rfl, hf⟩ := file_cells hlen h2
      have q0 := hcell 0 (by omega)
      have q1 := hcell 1 (by omega)
      have q2 := hcell 2 (by omega)
      rw [add_add] at q0 q1 q2
      exact ⟨f, by simpa using q0, by simpa using q1, by simpa using q2, hf⟩
    have : Inhabited Fl := ⟨Fl.zero⟩
    obtain ⟨q, hq⟩ := choose_lt each
    refine ⟨(List.range len).map q, ⟨some a, cap, by simpa using hcs, fun j hj => ?_⟩, by simp; omega, fun y hy => ?_⟩
    · have hj2 : j < len := by simpa using hj
      obtain ⟨h1, h2, h3, _⟩ := hq j hj2
      obtain ⟨a1, a2⟩ := at_none (by have := (hq 0 (by omega)).1; simpa using this)
      refine ⟨a.block, a.off, by rw [← a1], ?_, ?_, ?_⟩
      · rw [← a2, h1]; simp
      · rw [Nat.add_assoc, ← a2, h2]; simp
      · rw [Nat.add_assoc, ← a2, h3]; simp
    · simp only [List.mem_map, List.mem_range] at hy
      obtain ⟨i, hi, rfl⟩ := hy
      exact (hq i hi).2.2.2
set_option maxRecDepth 100000 in
theorem open_file {W : World} {b0 : Nat} {v : Value} {d : DataW H} {ps : List MemPlace} (hv : Value.okWide Tryd.prog W .any b0 40 v) (h : DataW.Trod enc Tryd.prog W 0 (fun _ => true) true 40 v d ps) :
    ∃ f : Fl, v = f.val ∧ okF f := by
  obtain ⟨cs, rfl, hsz⟩ := okWide_struct Tryd.underlying40 hv
  obtain ⟨fuel, hf⟩ := h
  obtain ⟨f, e, hf⟩ := file_cells (cs := cs.toList) (by simpa using hsz.trans (by kernel_rfl)) hf
  refine ⟨f, ?_, hf⟩
  unfold Fl.val
  congr 1
  exact Array.toList_inj.1 e
set_option maxRecDepth 100000 in
theorem open_tree {W : World} {b0 : Nat} {v : Value} {d : DataW H} {ps : List MemPlace} (hv : Value.okWide Tryd.prog W .any b0 24 v) (h : DataW.Trod enc Tryd.prog W 0 (fun _ => true) true 24 v d ps) :
    ∃ u l, v = .agg #[u] ∧ Files W u l ∧ l.length ≤ maxLen ∧ ∀ y ∈ l, okF y := by
  have k1 : Tryd.prog.cellsOf 22 = 1 := by kernel_rfl
  obtain ⟨cs, rfl, hsz⟩ := okWide_struct Tryd.underlying24 hv
  obtain ⟨c0, rfl⟩ := array1 (hsz.trans (by kernel_rfl))
  obtain ⟨fuel, hf⟩ := h
  obtain ⟨xs, n, _, _, _, hlen, hf⟩ := DataW.trod_struct Tryd.underlying24 hf
  obtain ⟨y0, rfl⟩ := list1 (hlen.trans rfl)
  have h0 : DataW.trod enc Tryd.prog W 0 (fun _ => true) true n 22 (([c0].drop 0).take (Tryd.prog.cellsOf 22)) = some y0 := hf 0 _ rfl
  rw [k1] at h0
  obtain ⟨l, h1, h2, h3⟩ := open_files_at h0
  exact ⟨c0, l, rfl, h1, h2, h3⟩
end Go.Proofs.YtjgkekgieodhnabDoor.Tre
