/- Laws that the proof rests on, put together: The steps by which a text comes to a disk: what they come to. What stands on an area: its head, and the text of a side. The text of a side, sector by sector. What a head that is read has. What the model tells beside a code of an area. The program's steps on a disk. -/
import Derived.Test.YtnfidmjplhmblaaDoorTextsI
import Derived.Test.YtnfidmjplhmblaaDoorAreaOuts
import Derived.Test.YtnfidmjplhmblaaDoorTextsA
import Derived.Test.YtnfidmjplhmblaaDoorTextsC
import Derived.Test.YtnfidmjplhmblaaDoorTextsH
/- The steps by which a text comes to a disk: what they come to. -/
namespace Go.Proofs.YtnfidmjplhmblaaDoor.Disk
open Go.RowKit Go.Proofs.YtnfidmjplhmblaaDoor.Mem Go.Proofs.YtnfidmjplhmblaaDoor.Harn Go.Proofs.YtnfidmjplhmblaaDoor.DiskP

/-- A step: a flush, or a write of a sector. -/
abbrev Step := Bool × Int × ByteArray
def stepO (ls : List ByteArray) (lp : List (Int × ByteArray)) (y : Step) : Out := if y.1 = true then flushO ls lp else writeO ls lp y.2.1 y.2.2
/-- One step behind the other, up to the first that tells a code. -/
def runO (ls : List ByteArray) (lp : List (Int × ByteArray)) : List Step → AOut
  | [] => ⟨ls, lp, ByteArray.empty, 0, 0⟩
  | y :: r => if (stepO ls lp y).c = 0 then runO (stepO ls lp y).ls (stepO ls lp y).lp r else illA (stepO ls lp y).c
theorem stepO_fits (ls : List ByteArray) (lp : List (Int × ByteArray)) (y : Step) : Fits (stepO ls lp y).ls (stepO ls lp y).lp := by
  unfold stepO
  split
  · exact (flushO_flushed ls lp).f
  · exact (writeO_wrote ls lp y.2.1 y.2.2).f
theorem runO_drop (ls : List ByteArray) (lp : List (Int × ByteArray)) (σ : List Step) (k : Nat) (h : k < σ.length) : runO ls lp (σ.drop k) = if (stepO ls lp σ[k]).c = 0 then runO (stepO ls lp σ[k]).ls (stepO ls lp σ[k]).lp (σ.drop (k + 1)) else illA (stepO ls lp σ[k]).c := by
  rw [List.drop_eq_getElem_cons h]
  rfl
theorem runO_end (ls : List ByteArray) (lp : List (Int × ByteArray)) (σ : List Step) (k : Nat) (h : σ.length ≤ k) : runO ls lp (σ.drop k) = ⟨ls, lp, ByteArray.empty, 0, 0⟩ := by
  rw [List.drop_eq_nil_of_le h]
  rfl
theorem runO_fits (σ : List Step) : ∀ (ls : List ByteArray) (lp : List (Int × ByteArray)), Fits ls lp → Fits (runO ls lp σ).ls (runO ls lp σ).lp := by
  induction σ with
  | nil => intro ls lp h; exact h
  | cons y r ih =>
    intro ls lp h
    unfold runO
    split
    · exact ih _ _ (stepO_fits ls lp y)
    · exact fits_nil
/-- The slice v reads as the steps l. -/
def Steps (W : World) (v : Value) (l : List Step) : Prop :=
  ∃ a cap, v = .slice a l.length cap ∧ ∀ j (h : j < l.length), ∃ b o, a = some ⟨b, o, none⟩ ∧ W.cell? ⟨b, o + j * 3, none⟩ = some (.bool l[j].1) ∧ W.cell? ⟨b, o + j * 3 + 1, none⟩ = some (.int .i64 l[j].2.1) ∧ W.cell? ⟨b, o + j * 3 + 2, none⟩ = some (.string l[j].2.2)
theorem Steps.below {W W' : World} {v : Value} {l : List Step} (h : Steps W v l) (hb : Below W.heap.size W W') : Steps W' v l := by
  obtain ⟨a, cap, hv, hc⟩ := h
  refine ⟨a, cap, hv, fun j hj => ?_⟩
  obtain ⟨b, o, ha, h1, h2, h3⟩ := hc j hj
  refine ⟨b, o, ha, ?_, ?_, ?_⟩
  · rw [hb.cell (World.block_lt_of_cell? W _ h1)]; exact h1
  · rw [hb.cell (World.block_lt_of_cell? W _ h2)]; exact h2
  · rw [hb.cell (World.block_lt_of_cell? W _ h3)]; exact h3

theorem box2_set {W : World} {g : Nat} {vs vp us up : Value} (h : Box2 W g vs vp) : Box2 ((W.setCell ⟨g, 0, none⟩ us).setCell ⟨g, 1, none⟩ up) g us up := row_set (row_set h 0 us) 1 up
theorem onlyA_set1 (W : World) (b o : Nat) (v0 : Value) : Only (fun k => k = b) W (W.setCell ⟨b, o, none⟩ v0) := ⟨rfl, rfl, rfl, by simp, fun k _ hk => Below.heap_setCell _ _ _ _ hk⟩
theorem onlyA_set2 {W : World} {b : Nat} {v0 v1 : Value} : Only (fun k => k = b) W ((W.setCell ⟨b, 0, none⟩ v0).setCell ⟨b, 1, none⟩ v1) := (onlyA_set1 W b 0 v0).trans (onlyA_set1 _ b 1 v1)
theorem onlyA_set5 {W : World} {b : Nat} {v0 v1 v2 v3 v4 : Value} : Only (fun k => k = b) W (((((W.setCell ⟨b, 0, none⟩ v0).setCell ⟨b, 1, none⟩ v1).setCell ⟨b, 2, none⟩ v2).setCell ⟨b, 3, none⟩ v3).setCell ⟨b, 4, none⟩ v4) :=
  (((onlyA_set2.trans (onlyA_set1 _ b 2 v2)).trans (onlyA_set1 _ b 3 v3)).trans (onlyA_set1 _ b 4 v4))
end Go.Proofs.YtnfidmjplhmblaaDoor.Disk

/- What stands on an area: its head, and the text of a side. -/
namespace Go.Proofs.YtnfidmjplhmblaaDoor.Disk
open Go.RowKit Go.Proofs.YtnfidmjplhmblaaDoor.Mem Go.Proofs.YtnfidmjplhmblaaDoor.Harn Go.Proofs.YtnfidmjplhmblaaDoor.DiskP Go.Proofs.YtnfidmjplhmblaaDoor.GetNum Go.Proofs.YtnfidmjplhmblaaDoor.PutNum Go.Proofs.YtnfidmjplhmblaaDoor.Seal Go.Proofs.YtnfidmjplhmblaaDoor.Unseal

/-- The three numbers of a head, if these are all that stands there. -/
def headNum (s : ByteArray) : Option (Int × Int × Int) :=
  if (rd s 0).1 = 0 ∧ (rd s (rd s 0).2.2).1 = 0 ∧ (rd s (rd s (rd s 0).2.2).2.2).1 = 0 ∧ (rd s (rd s (rd s 0).2.2).2.2).2.2 = s.size then some (unfoldI (rd s 0).2.1, unfoldI (rd s (rd s 0).2.2).2.1, unfoldI (rd s (rd s (rd s 0).2.2).2.2).2.1) else none

theorem rd_eta {s : ByteArray} {p : Nat} (h : (rd s p).1 = 0) : rd s p = (0, (rd s p).2.1, (rd s p).2.2) := by
  rw [← h]
theorem numB_data (n : Int) : (numB n).data.toList = putF 9 (foldN n) := by simp [numB, numL]
theorem size_list (s : ByteArray) : s.data.toList.length = s.size := by simp
/-- What the three numbers' bytes make is the text's beginning. -/
theorem three_nums {s : ByteArray} {y1 y2 y3 q1 q2 q3 : Nat} (h1 : rd s 0 = (0, y1, q1)) (h2 : rd s q1 = (0, y2, q2)) (h3 : rd s q2 = (0, y3, q3)) :
    (numB (unfoldI y1) ++ numB (unfoldI y2) ++ numB (unfoldI y3)).data.toList = s.data.toList.take q3 ∧ q3 ≤ s.size := by
  obtain ⟨a1, a2, a3⟩ := NumRound.rd_inv h1
  obtain ⟨b1, b2, b3⟩ := NumRound.rd_inv h2
  obtain ⟨c1, c2, c3⟩ := NumRound.rd_inv h3
  refine ⟨?_, c2⟩
  have e3 : s.data.toList.take q3 = s.data.toList.take q2 ++ putF 9 y3 := by rw [c1, List.take_add, c3]
  have e2 : s.data.toList.take q2 = s.data.toList.take q1 ++ putF 9 y2 := by rw [b1, List.take_add, b3]
  have e1 : s.data.toList.take q1 = putF 9 y1 := by rw [a1, Nat.zero_add]; simpa using a3
  rw [Crc.data_app, Crc.data_app, numB_data, numB_data, numB_data, NumRound.fold_unfold, NumRound.fold_unfold, NumRound.fold_unfold, e3, e2, e1]
/-- The head that the numbers make is the sector, just if nothing stands behind them. -/
theorem head_same {h : ByteArray} {y1 y2 y3 q1 q2 q3 : Nat} (hk : okSeal h = true) (h4 : 4 ≤ h.size) (h1 : rd (h.extract 0 (h.size - 4)) 0 = (0, y1, q1)) (h2 : rd (h.extract 0 (h.size - 4)) q1 = (0, y2, q2)) (h3 : rd (h.extract 0 (h.size - 4)) q2 = (0, y3, q3)) :
    headB (unfoldI y1) (unfoldI y2) (unfoldI y3) = h ↔ q3 = (h.extract 0 (h.size - 4)).size := by
  obtain ⟨e, hq⟩ := three_nums h1 h2 h3
  have hs : sealB (h.extract 0 (h.size - 4)) = h := by
    have := seal_same h
    rw [hk] at this
    have e2 : (sealB (h.extract 0 (h.size - 4))).toList = h.toList := by simpa using this
    refine ba_ext ?_
    rw [← list_eq, ← list_eq]; exact e2
  have hz : (h.extract 0 (h.size - 4)).size = h.size - 4 := by simp
  unfold headB
  generalize hX : numB (unfoldI y1) ++ numB (unfoldI y2) ++ numB (unfoldI y3) = X at *
  constructor
  · intro hh
    have hn := congrArg ByteArray.size hh
    rw [seal_size] at hn
    have hx : X.size = q3 := by
      rw [← size_list X, e, List.length_take, size_list]; omega
    omega
  · intro hh
    have hx : X = h.extract 0 (h.size - 4) := by
      refine ba_ext ?_
      rw [e, hh, ← size_list, List.take_length]
    rw [hx, hs]

/-- The head of a disk: its number, its side, its size, and the code. -/
def seenO (ls : List ByteArray) (lp : List (Int × ByteArray)) : Int × Int × Int × Int :=
  if (readD ls lp 0).size < 4 then (0, 0, 0, 4) else if okSeal (readD ls lp 0) = false then (0, 0, 0, 5) else
  match headNum ((readD ls lp 0).extract 0 ((readD ls lp 0).size - 4)) with
  | some (g, s, n) => if 0 ≤ g ∧ (0 ≤ s ∧ s ≤ 1) ∧ (0 ≤ n ∧ n ≤ ((64 * halfN ls : Nat) : Int)) then (g, s, n, 0) else (0, 0, 0, 3)
  | none => (0, 0, 0, 3)
/-- The first n bytes of what stands from sector i on, each sector full but the last. -/
def sideK (f : Nat → ByteArray) : Nat → Nat → Nat → Option ByteArray
  | 0, _, n => if n = 0 then some ByteArray.empty else none
  | m + 1, i, n => if n = 0 then some ByteArray.empty else if (f i).size < min 64 n then none else (sideK f m (i + 1) (n - min 64 n)).map (fun r => (f i).extract 0 (min 64 n) ++ r)
def firstN (ls : List ByteArray) (s : Nat) : Nat := 1 + s * halfN ls
/-- What AreaRead tells. -/
def readAO (ls : List ByteArray) (lp : List (Int × ByteArray)) : AOut :=
  if rightB ls lp = true then
    (if (seenO ls lp).2.2.2 = 0 then
      (match sideK (readD ls lp) (halfN ls) (firstN ls (seenO ls lp).2.1.toNat) (seenO ls lp).2.2.1.toNat with
      | some t => ⟨ls, lp, t, (seenO ls lp).1, 0⟩
      | none => illA 5)
    else illA (seenO ls lp).2.2.2)
  else illA 1
end Go.Proofs.YtnfidmjplhmblaaDoor.Disk

/- The text of a side, sector by sector. -/
namespace Go.Proofs.YtnfidmjplhmblaaDoor.Disk
open Go.RowKit

theorem side_done (f : Nat → ByteArray) (m i : Nat) : sideK f m i 0 = some ByteArray.empty := by cases m <;> simp [sideK]
theorem side_short {f : Nat → ByteArray} {m i n : Nat} (hn : 0 < n) (h : (f i).size < min 64 n) : sideK f (m + 1) i n = none := by
  rw [sideK, if_neg (by omega), if_pos h]
theorem side_step {f : Nat → ByteArray} {m i n : Nat} (hn : 0 < n) (h : ¬ (f i).size < min 64 n) : sideK f (m + 1) i n = (sideK f m (i + 1) (n - min 64 n)).map (fun r => (f i).extract 0 (min 64 n) ++ r) := by
  rw [sideK, if_neg (by omega), if_neg h]
theorem app_assoc (a b c : ByteArray) : a ++ b ++ c = a ++ (b ++ c) := by
  refine Unseal.ba_ext ?_
  rw [Crc.data_app, Crc.data_app, Crc.data_app, Crc.data_app, List.append_assoc]
theorem empty_app (a : ByteArray) : ByteArray.empty ++ a = a := Unseal.empty_app a
theorem app_empty (a : ByteArray) : a ++ ByteArray.empty = a := by
  refine Unseal.ba_ext ?_
  rw [Crc.data_app]
  exact List.append_nil _
/-- What was gathered so far, and what is still to come. -/
def SideRel (f : Nat → ByteArray) (R : Option ByteArray) (m i n : Nat) (acc : ByteArray) : Prop := R = (sideK f m i n).map (fun r => acc ++ r)
theorem side_rel0 (f : Nat → ByteArray) (m i n : Nat) : SideRel f (sideK f m i n) m i n ByteArray.empty := by
  unfold SideRel
  cases sideK f m i n with
  | none => rfl
  | some r => simp
theorem side_rel1 {f : Nat → ByteArray} {R : Option ByteArray} {m i n : Nat} {acc : ByteArray} (h : SideRel f R (m + 1) i n acc) (hn : 0 < n) (h2 : ¬ (f i).size < min 64 n) : SideRel f R m (i + 1) (n - min 64 n) (acc ++ (f i).extract 0 (min 64 n)) := by
  unfold SideRel at *
  rw [h, side_step hn h2, Option.map_map]
  congr 1
  funext r
  exact (app_assoc _ _ _).symm
theorem side_relN {f : Nat → ByteArray} {R : Option ByteArray} {m i n : Nat} {acc : ByteArray} (h : SideRel f R (m + 1) i n acc) (hn : 0 < n) (h2 : (f i).size < min 64 n) : R = none := by
  rw [h, side_short hn h2]; rfl
theorem side_relS {f : Nat → ByteArray} {R : Option ByteArray} {m i : Nat} {acc : ByteArray} (h : SideRel f R m i 0 acc) : R = some acc := by
  rw [h, side_done]
  simp
end Go.Proofs.YtnfidmjplhmblaaDoor.Disk

/- What a head that is read has. -/
namespace Go.Proofs.YtnfidmjplhmblaaDoor.Disk
open Go.RowKit Go.Proofs.YtnfidmjplhmblaaDoor.DiskP

theorem seen_cases (ls : List ByteArray) (lp : List (Int × ByteArray)) : (∃ (g : Int) (s n : Nat), seenO ls lp = (g, (s : Int), (n : Int), 0) ∧ 0 ≤ g ∧ s ≤ 1 ∧ n ≤ 64 * halfN ls ∧ headNum ((readD ls lp 0).extract 0 ((readD ls lp 0).size - 4)) = some (g, (s : Int), (n : Int)) ∧ ¬ (readD ls lp 0).size < 4 ∧ Unseal.okSeal (readD ls lp 0) = true) ∨ seenO ls lp = (0, 0, 0, 3) ∨ seenO ls lp = (0, 0, 0, 4) ∨ seenO ls lp = (0, 0, 0, 5) := by
  unfold seenO
  split
  · exact .inr (.inr (.inl rfl))
  · rename_i h4
    split
    · exact .inr (.inr (.inr rfl))
    · rename_i hk
      have hk2 : Unseal.okSeal (readD ls lp 0) = true := by simpa using hk
      cases h : headNum ((readD ls lp 0).extract 0 ((readD ls lp 0).size - 4)) with
      | none => exact .inr (.inl rfl)
      | some x =>
        obtain ⟨g, s, n⟩ := x
        dsimp only
        split
        · rename_i hh
          obtain ⟨h1, ⟨h2, h3⟩, h5, h6⟩ := hh
          refine .inl ⟨g, s.toNat, n.toNat, ?_, h1, by omega, by omega, ?_, h4, hk2⟩
          · rw [Int.toNat_of_nonneg h2, Int.toNat_of_nonneg h5]
          · rw [Int.toNat_of_nonneg h2, Int.toNat_of_nonneg h5]
        · exact .inr (.inl rfl)
theorem readAO_form {ls : List ByteArray} {lp : List (Int × ByteArray)} (h : rightB ls lp = false) : readAO ls lp = illA 1 := by unfold readAO; rw [h]; rfl
theorem readAO_code {ls : List ByteArray} {lp : List (Int × ByteArray)} {g s n c : Int} (h : rightB ls lp = true) (h2 : seenO ls lp = (g, s, n, c)) (hc : c ≠ 0) : readAO ls lp = illA c := by unfold readAO; rw [if_pos h, h2]; exact if_neg hc
theorem readAO_ok {ls : List ByteArray} {lp : List (Int × ByteArray)} {g : Int} {s n : Nat} (h : rightB ls lp = true) (h2 : seenO ls lp = (g, (s : Int), (n : Int), 0)) : readAO ls lp = match sideK (readD ls lp) (halfN ls) (firstN ls s) n with
      | some t => ⟨ls, lp, t, g, 0⟩
      | none => illA 5 := by unfold readAO; rw [if_pos h, h2]; rfl
theorem readAO_some {ls : List ByteArray} {lp : List (Int × ByteArray)} {g : Int} {s n : Nat} {t : ByteArray} (h : rightB ls lp = true) (h2 : seenO ls lp = (g, (s : Int), (n : Int), 0)) (h3 : sideK (readD ls lp) (halfN ls) (firstN ls s) n = some t) : readAO ls lp = ⟨ls, lp, t, g, 0⟩ := by rw [readAO_ok h h2, h3]
theorem readAO_none {ls : List ByteArray} {lp : List (Int × ByteArray)} {g : Int} {s n : Nat} (h : rightB ls lp = true) (h2 : seenO ls lp = (g, (s : Int), (n : Int), 0)) (h3 : sideK (readD ls lp) (halfN ls) (firstN ls s) n = none) : readAO ls lp = illA 5 := by rw [readAO_ok h h2, h3]
theorem readAO_fits {ls : List ByteArray} {lp : List (Int × ByteArray)} (h : Fits ls lp) : Fits (readAO ls lp).ls (readAO ls lp).lp := by
  unfold readAO
  split
  · split
    · split
      · exact h
      · exact fits_nil
    · exact fits_nil
  · exact fits_nil
theorem readAO_len {ls : List ByteArray} {lp : List (Int × ByteArray)} (h : Fits ls lp) : (readAO ls lp).ls.length ≤ 1100000 ∧ (readAO ls lp).lp.length ≤ 1100000 := ⟨(readAO_fits h).n, (readAO_fits h).m⟩
end Go.Proofs.YtnfidmjplhmblaaDoor.Disk

/- What the model tells beside a code of an area. -/
namespace Go.Proofs.YtnfidmjplhmblaaDoor.Disk
open Go.RowKit Go.Proofs.YtnfidmjplhmblaaDoor.Mem Go.Proofs.YtnfidmjplhmblaaDoor.Harn Go.Proofs.YtnfidmjplhmblaaDoor.DiskP

theorem illA_any (c : Int) (w : World) : Calls Tryd.prog 16 #[.int .i64 c] w fun e w' => e = .returned (outA (.slice none 0 0) (.slice none 0 0) ByteArray.empty 0 c) ∧ Below w.heap.size w w' := by
  go_enter Tryd.func16, Tryd.ntmps16
  go_wp2_with fail
  refine bodyPost_ret (v := outA (.slice none 0 0) (.slice none 0 0) ByteArray.empty 0 c) (by simp [results, Tryd.results16, go_sem]; rfl) rfl ⟨rfl, ?_⟩
  first
    | exact (Below.refl _ _).alloc (Nat.le_refl _) _
    | exact (((((bself _).setCell (p := ⟨w.heap.size, 0, none⟩) (by simp) _).setCell (p := ⟨w.heap.size, 1, none⟩) (by simp) _).setCell (p := ⟨w.heap.size, 2, none⟩) (by simp) _).setCell (p := ⟨w.heap.size, 3, none⟩) (by simp) _).setCell (p := ⟨w.heap.size, 4, none⟩) (by simp) _
end Go.Proofs.YtnfidmjplhmblaaDoor.Disk

/- The program's steps on a disk. -/
namespace Go.Proofs.YtnfidmjplhmblaaDoor.Disk
open Go.RowKit Go.Proofs.YtnfidmjplhmblaaDoor.Mem Go.Proofs.YtnfidmjplhmblaaDoor.Harn Go.Proofs.YtnfidmjplhmblaaDoor.DiskP

theorem told_set4 {w W w1 : World} {o : Out} {us up : Value} {g : Nat} (ho : Own w1 W.heap.size w1.heap.size us up o.ls o.lp) (hB : Below w.heap.size w W) (hb : Below W.heap.size W w1) (hg : w.heap.size ≤ g) (hgW : g < W.heap.size) : Told w o (.returned (outV us up o.t o.c)) ((((w1.setCell ⟨g, 0, none⟩ us).setCell ⟨g, 1, none⟩ up).setCell ⟨g, 2, none⟩ (.string o.t)).setCell ⟨g, 3, none⟩ (.int .i64 o.c)) :=
  ⟨us, up, rfl, (((ho.setCell (a := ⟨g, 0, none⟩) (.inl hgW) us).setCell (a := ⟨g, 1, none⟩) (.inl hgW) up).setCell (a := ⟨g, 2, none⟩) (.inl hgW) (.string o.t)).setCell (a := ⟨g, 3, none⟩) (.inl hgW) (.int .i64 o.c) |>.wide hB.size (by simp), ((((bT hB hb).setCell (p := ⟨g, 0, none⟩) hg us).setCell (p := ⟨g, 1, none⟩) hg up).setCell (p := ⟨g, 2, none⟩) hg (.string o.t)).setCell (p := ⟨g, 3, none⟩) hg (.int .i64 o.c)⟩

/-- What the round of steps keeps: the disk as it is now, in a box of its own; the box of the answer. -/
structure TakeSt (w W : World) (gn gr : Nat) (va : Option Addr) (ca : Nat) (vb : Option Addr) (cb : Nat) (ls : List ByteArray) (lp : List (Int × ByteArray)) (lo hi : Nat) : Prop where
  b : Below w.heap.size w W
  n : Box2 W gn (.slice va ls.length ca) (.slice vb lp.length cb)
  r : BoxA W gr (.slice none 0 0) (.slice none 0 0) ByteArray.empty 0 0
  o : Own W lo hi (.slice va ls.length ca) (.slice vb lp.length cb) ls lp
  h1 : w.heap.size ≤ lo
  h2 : hi ≤ W.heap.size
  h3 : gn < lo ∨ hi ≤ gn
  h4 : gr < lo ∨ hi ≤ gr
  h5 : gn < W.heap.size
  h6 : gr < W.heap.size
  h7 : w.heap.size ≤ gn
  h8 : w.heap.size ≤ gr
  h9 : gn ≠ gr

/-- The first k steps were taken. -/
def TakeRel (w : World) (gn gr : Nat) (ls : List ByteArray) (lp : List (Int × ByteArray)) (σ : List Step) (k : Nat) (W : World) : Prop := ∃ va ca vb cb lk qk lo hi, TakeSt w W gn gr va ca vb cb lk qk lo hi ∧ Fits lk qk ∧ runO ls lp σ = runO lk qk (σ.drop k)
theorem takeSt_next {w W w2 : World} {gn gr : Nat} {va va2 : Option Addr} {ca ca2 : Nat} {vb vb2 : Option Addr} {cb cb2 : Nat} {ls l2 : List ByteArray} {lp p2 : List (Int × ByteArray)} {lo hi W9 : Nat} {x : Obj} (h : TakeSt w W gn gr va ca vb cb ls lp lo hi) (hb : Below W.heap.size W w2) (ho : Own w2 W9 w2.heap.size (.slice va2 l2.length ca2) (.slice vb2 p2.length cb2) l2 p2) (h9 : W.heap.size ≤ W9) :
    TakeSt w (((w2.setCell ⟨gn, 0, none⟩ (.slice va2 l2.length ca2)).setCell ⟨gn, 1, none⟩ (.slice vb2 p2.length cb2)).alloc x) gn gr va2 ca2 vb2 cb2 l2 p2 W9 w2.heap.size := by
  have hz := hb.size
  have h5 := h.h5
  have h6 := h.h6
  have h7 := h.h7
  have hq := h.b.size
  refine ⟨?_, Sha.row_alloc (box2_set (h.n.below hb h.h5)) _, ?_, ?_, by omega, by simp, by omega, by omega, by simp; omega, by simp; omega, h.h7, h.h8, h.h9⟩
  · exact bA (((bT h.b hb).setCell (p := ⟨gn, 0, none⟩) h7 _).setCell (p := ⟨gn, 1, none⟩) h7 _) _
  · exact BoxA.alloc (BoxA.only (BoxA.below h.r hb h6) onlyA_set2 (fun e => h.h9 e.symm)) _
  · exact (ho.only onlyA_set2 (fun k h1 _ e => by omega)).below (bself x)
theorem told_set5 {w w2 : World} {o : AOut} {us up : Value} {g lo hi : Nat} (ho : Own w2 lo hi us up o.ls o.lp) (hb : Below w.heap.size w w2) (h1 : w.heap.size ≤ lo) (h2 : hi ≤ w2.heap.size) (hg : g < lo ∨ hi ≤ g) (h8 : w.heap.size ≤ g) : ToldA w o (.returned (outA us up o.t o.g o.c)) (((((w2.setCell ⟨g, 0, none⟩ us).setCell ⟨g, 1, none⟩ up).setCell ⟨g, 2, none⟩ (.string o.t)).setCell ⟨g, 3, none⟩ (.int .i64 o.g)).setCell ⟨g, 4, none⟩ (.int .i64 o.c)) :=
  ⟨us, up, rfl, (ho.only onlyA_set5 (fun k h3 h4 e => by omega)).wide h1 (by simp; omega), onlyA_set5.below hb hb.size (fun k h3 e => by omega)⟩

theorem ToldA.alloc {w w2 : World} {o : AOut} {e : Ending} (h : ToldA w o e w2) (x : Obj) : ToldA w o e (w2.alloc x) := by
  obtain ⟨us, up, h1, h2, h3⟩ := h
  exact ⟨us, up, h1, (h2.below (bself x)).wide (Nat.le_refl _) (by simp), bA h3 x⟩

theorem Step.at {W : World} {a : Option Addr} {cap : Nat} {l : List Step} (h : Steps W (.slice a l.length cap) l) (j : Nat) (hj : j < l.length) : ∃ b o, a = some ⟨b, o, none⟩ ∧ W.cell? ⟨b, o + j * 3, none⟩ = some (.bool l[j].1) ∧ W.cell? ⟨b, o + j * 3 + 1, none⟩ = some (.int .i64 l[j].2.1) ∧ W.cell? ⟨b, o + j * 3 + 2, none⟩ = some (.string l[j].2.2) := by
  obtain ⟨a', c', hv, hc⟩ := h
  cases hv
  exact hc j hj

end Go.Proofs.YtnfidmjplhmblaaDoor.Disk
