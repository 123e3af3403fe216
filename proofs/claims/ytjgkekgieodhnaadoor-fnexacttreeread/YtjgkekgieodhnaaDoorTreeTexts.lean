/- A tree's bytes, as a function of its files; the model's. -/
import Derived.Test.YtjgkekgieodhnaaDoorSpecTree
import Derived.Test.YtjgkekgieodhnaaDoorTextsC
import Derived.Test.YtjgkekgieodhnaaDoorTextsA
namespace Go.Proofs.YtjgkekgieodhnaaDoor.Tre
open Go.RowKit Go.Proofs.YtjgkekgieodhnaaDoor.Mem Go.Proofs.YtjgkekgieodhnaaDoor.Gf Go.Proofs.YtjgkekgieodhnaaDoor.Harn Go.Proofs.YtjgkekgieodhnaaDoor.Mark Go.Proofs.YtjgkekgieodhnaaDoor.Frm

def fileT (f : Fl) : List ByteArray := [PutText.textB f.p, PutNum.numB f.m, PutText.textB f.d]
def filesT (l : List Fl) : List ByteArray := l.flatMap fileT
def treeT (l : List Fl) : List ByteArray := PutNum.numB (l.length : Nat) :: filesT l
def treeB (l : List Fl) : ByteArray := catB (treeT l)
def treeO (l : List Fl) : ByteArray := if treeR l then treeB l else ByteArray.empty
theorem filesT_one (l : List Fl) (k : Nat) (h : k < l.length) : filesT (l.take (k + 1)) = filesT (l.take k) ++ fileT l[k] := by
  unfold filesT; rw [List.take_succ_eq_append_getElem h, List.flatMap_append]; simp
theorem catB_cons3 (a : ByteArray) (l : List ByteArray) (x y z : ByteArray) : catB (a :: (l ++ [x, y, z])) = catB (a :: l) ++ x ++ y ++ z := by
  rw [← catB_snoc, ← catB_snoc, ← catB_snoc]; simp
theorem treeB_one (n : ByteArray) (l : List Fl) (k : Nat) (h : k < l.length) : catB (n :: filesT (l.take (k + 1))) = catB (n :: filesT (l.take k)) ++ PutText.textB l[k].p ++ PutNum.numB l[k].m ++ PutText.textB l[k].d := by
  rw [filesT_one l k h]; exact catB_cons3 _ _ _ _ _
theorem textB_size (t : ByteArray) : 1 ≤ (PutText.textB t).size ∧ (PutText.textB t).size ≤ t.size + 10 := by
  have := numB_size (t.size : Nat)
  unfold PutText.textB
  rw [ByteArray.size_append]; omega
theorem filesT_size : ∀ (l : List Fl), (∀ y ∈ l, y.p.size ≤ 20 ∧ y.d.size ≤ 80) → catS (filesT l) ≤ l.length * 130
  | [], _ => by simp [filesT, catS]
  | f :: l, h => by
    have ih := filesT_size l fun y hy => h y (List.mem_cons_of_mem _ hy)
    obtain ⟨h1, h2⟩ := h f (List.mem_cons_self)
    have e : filesT (f :: l) = fileT f ++ filesT l := by simp [filesT]
    have b1 := textB_size f.p
    have b2 := numB_size f.m
    have b3 := textB_size f.d
    rw [e, catS_app]
    simp only [fileT, catS, List.length_cons]
    omega
theorem treeT_size {l : List Fl} (h : treeR l = true) : catS (treeT l) ≤ 800 := by
  have h1 := treeR_le h
  have h2 := filesT_size l fun y hy => by
    obtain ⟨i, hi, rfl⟩ := List.getElem_of_mem hy
    have := fileR_le (goodAt_file (treeR_at h i hi))
    exact ⟨this.1, this.2.2.2⟩
  have h3 := numB_size (l.length : Nat)
  unfold treeT
  simp only [catS]
  omega
theorem treeT_part {l : List Fl} (h : treeR l = true) (k : Nat) : (catB (PutNum.numB (l.length : Nat) :: filesT (l.take k))).size ≤ 800 := by
  have h1 := treeR_le h
  have h2 := filesT_size (l.take k) fun y hy => by
    obtain ⟨i, hi, rfl⟩ := List.getElem_of_mem (List.mem_of_mem_take hy)
    have := fileR_le (goodAt_file (treeR_at h i hi))
    exact ⟨this.1, this.2.2.2⟩
  have h3 := numB_size (l.length : Nat)
  have h4 : (l.take k).length ≤ l.length := by simp; omega
  rw [catB_size]
  simp only [catS]
  omega
theorem treeT_pos (l : List Fl) : ∀ t ∈ treeT l, 0 < t.size := by
  intro t ht
  unfold treeT at ht
  rcases List.mem_cons.1 ht with rfl | ht
  · exact (numB_size _).1
  · unfold filesT at ht
    obtain ⟨f, _, hf⟩ := List.mem_flatMap.1 ht
    simp only [fileT, List.mem_cons, List.not_mem_nil, or_false] at hf
    rcases hf with rfl | rfl | rfl
    · exact (textB_size _).1
    · exact (numB_size _).1
    · exact (textB_size _).1
theorem bDr {B : Nat} {w W : World} (h : Below B w W) : Below B w W.drew := ⟨h.os, h.tape, h.output, h.size, h.block⟩
set_option maxRecDepth 100000 in
set_option maxHeartbeats 1000000 in
theorem l07Bytes_any (v : Value) (l : List Fl) (w : World) (h : Files w v l) (hr : treeR l = true) :
    Calls Tryd.prog 24 #[.agg #[v]] w fun e w' => e = .returned (.string (treeB l)) ∧ Below w.heap.size w w' := by
  have h6 := treeR_le hr
  have hn : ((l.length : Nat) : Int) ≤ 6 := by omega
  have HB0 := hidT (fun k (h : k < l.length) => fileR_le (goodAt_file (treeR_at hr k h)))
  have KN : Hid (∀ n : Int, -9223372036854775808 ≤ n → n ≤ 9223372036854775807 → ∀ W, Calls Tryd.prog 37 #[.int .i64 n] W fun e w' => e = .returned (.string (PutNum.numB n)) ∧ Below W.heap.size W w') := fun n h1 h2 W => PutNum.specPutNum_any n W h1 h2
  have KL := hidT (KN.out (l.length : Nat) (by omega) (by omega))
  have HPT := hidT (treeT_part hr)
  have HONE := hidT (treeB_one (PutNum.numB (l.length : Nat)) l)
  have HEND : Hid (catB (PutNum.numB (l.length : Nat) :: filesT (l.take l.length)) = treeB l) := by rw [List.take_length]; rfl
  have HST : Hid (PutNum.numB (l.length : Nat) = catB (PutNum.numB (l.length : Nat) :: filesT (l.take 0))) := by simp [filesT, catB, Hid]
  generalize PutNum.numB (l.length : Nat) = nb at *
  generalize treeB l = R at *
  obtain ⟨a, cap, rfl, hc⟩ := h
  have HC : Hid (RC w a l) := hc
  clear hc hr
  go_enter Tryd.func24, Tryd.ntmps24
  go_wp2_with fail
  refine (KL.out _).mono ?_
  rintro e w1 ⟨rfl, hb1⟩
  have HB1 := hidT (bstep ((Below.refl w.heap.size w).alloc (Nat.le_refl _) _) hb1)
  have hx1 := (hb1.cell (p := ⟨w.heap.size, 0, none⟩) (by simp))
  simp at hx1
  clear hb1
  go_wp2
  go_loopw [3, 4] (fun t i wr => ∃ k : Nat, k ≤ l.length ∧ i = .int .i64 k ∧ Below w.heap.size w wr ∧ wr.cell? ⟨w.heap.size, 0, none⟩ = some (.slice a l.length cap) ∧ ∃ s : ByteArray, t = .string s ∧ Hid (s = catB (nb :: filesT (l.take k)))) (fun _ i _ => l.length - (intOf i).toNat)
  case atStart => exact ⟨0, Nat.zero_le _, rfl, HB1.out, hx1, nb, rfl, HST.out⟩
  case round =>
    obtain ⟨k, hk, rfl, hbel, hbox, s, rfl, HS⟩ := hrel
    by_cases hlt : k < l.length
    · obtain ⟨b, o, rfl, d1, d2, d3⟩ := HC.out k hlt
      have c1 : wr.cell? ⟨b, o + k * 3, none⟩ = _ := (hbel.cell (World.block_lt_of_cell? w _ d1)).trans d1
      have c2 : wr.cell? ⟨b, o + k * 3 + 1, none⟩ = _ := (hbel.cell (World.block_lt_of_cell? w _ d2)).trans d2
      have c3 : wr.cell? ⟨b, o + k * 3 + 2, none⟩ = _ := (hbel.cell (World.block_lt_of_cell? w _ d3)).trans d3
      have p1 : (k : Int) < (l.length : Int) := by omega
      have p0 : (0 : Int) ≤ (k : Int) := by omega
      have bd := HB0.out k hlt
      have hs8 : s.size ≤ 800 := by rw [HS.out]; exact HPT.out k
      have K1 : Hid (∀ W, Calls Tryd.prog 38 #[.string l[k].p] W fun e w' => e = .returned (.string (PutText.textB l[k].p)) ∧ Below W.heap.size W w') := fun W => PutText.specPutText_in _ W (by omega)
      have K2 := hidT (KN.out l[k].m (by omega) (by omega))
      have K3 : Hid (∀ W, Calls Tryd.prog 38 #[.string l[k].d] W fun e w' => e = .returned (.string (PutText.textB l[k].d)) ∧ Below W.heap.size W w') := fun W => PutText.specPutText_in _ W (by omega)
      have HNEW : Hid (s ++ PutText.textB l[k].p ++ PutNum.numB l[k].m ++ PutText.textB l[k].d = catB (nb :: filesT (l.take (k + 1)))) := by
        unfold Hid; rw [HONE.out k hlt, HS.out]
      have z1 := (textB_size l[k].p).2
      have z2 := (numB_size l[k].m).2
      have z3 := (textB_size l[k].d).2
      have n1 : ¬ 9223372036854775807 < s.size + (PutText.textB l[k].p).size := by omega
      have n2 : ¬ 9223372036854775807 < s.size + (PutText.textB l[k].p).size + (PutNum.numB l[k].m).size := by omega
      have n3 : ¬ 9223372036854775807 < s.size + (PutText.textB l[k].p).size + (PutNum.numB l[k].m).size + (PutText.textB l[k].d).size := by omega
      clear z1 z2 z3 bd hs8 HS
      generalize PutText.textB l[k].p = t1 at *
      generalize PutNum.numB l[k].m = t2 at *
      generalize PutText.textB l[k].d = t3 at *
      generalize l[k].p = y1 at *
      generalize l[k].m = y2 at *
      generalize l[k].d = y3 at *
      have HB := hidT hbel
      have KC : Hid (∀ W, Below wr.heap.size wr W → W.cell? ⟨w.heap.size, 0, none⟩ = some (.slice (some ⟨b, o, none⟩) l.length cap) ∧ W.cell? ⟨b, o + k * 3, none⟩ = some (.string y1) ∧ W.cell? ⟨b, o + k * 3 + 1, none⟩ = some (.int .i64 y2) ∧ W.cell? ⟨b, o + k * 3 + 2, none⟩ = some (.string y3)) := fun W hb => ⟨(hb.cell (World.block_lt_of_cell? wr _ hbox)).trans hbox, (hb.cell (World.block_lt_of_cell? wr _ c1)).trans c1, (hb.cell (World.block_lt_of_cell? wr _ c2)).trans c2, (hb.cell (World.block_lt_of_cell? wr _ c3)).trans c3⟩
      have NB := hidT (Below.refl wr.heap.size wr)
      clear d1 d2 d3 hbel
      go_wp2_with fail
      go_region_held3 (fun W => W.cell? ⟨w.heap.size, 0, none⟩ = some (.slice (some ⟨b, o, none⟩) l.length cap) ∧ W.cell? ⟨b, o + k * 3, none⟩ = some (.string y1) ∧ W.cell? ⟨b, o + k * 3 + 1, none⟩ = some (.int .i64 y2) ∧ W.cell? ⟨b, o + k * 3 + 2, none⟩ = some (.string y3))
        (first
          | go_keep
          | (refine KC.out _ ?_; (repeat' (first | exact NB.out | apply bDr)); done))
        (first
          | (go_at_call_of 38 (Value.string y1); refine (K1.out _).mono ?_; rintro e w2 ⟨rfl, hb⟩; have NB2 := bstep (by repeat' (first | exact NB.out | apply bDr)) hb; clear NB hb; have NB := hidT NB2; clear NB2)
          | (go_at_call 37; refine (K2.out _).mono ?_; rintro e w3 ⟨rfl, hb⟩; have NB2 := bstep (by repeat' (first | exact NB.out | apply bDr)) hb; clear NB hb; have NB := hidT NB2; clear NB2)
          | (go_at_call_of 38 (Value.string y3); refine (K3.out _).mono ?_; rintro e w4 ⟨rfl, hb⟩; have NB2 := bstep (by repeat' (first | exact NB.out | apply bDr)) hb; clear NB hb; have NB := hidT NB2; have kQ : w4.cell? ⟨w.heap.size, 0, none⟩ = some (.slice (some ⟨b, o, none⟩) l.length cap) ∧ w4.cell? ⟨b, o + k * 3, none⟩ = some (.string y1) ∧ w4.cell? ⟨b, o + k * 3 + 1, none⟩ = some (.int .i64 y2) ∧ w4.cell? ⟨b, o + k * 3 + 2, none⟩ = some (.string y3) := KC.out _ NB2; simp only [CutCall.shut_cut] at *))
      unfold Hid
      refine wpAnyH_take (i := 24) (v := ?_) rfl (by kernel_rfl) (by kernel_rfl) (by kernel_rfl) (fun _ _ _ h => h) (Or.inl ⟨by rfl, ?_⟩) kQ ?_
      rotate_left
      · (intro w9 hS9; (try dsimp only at hS9); go_simp; (try with_reducible rfl))
      simp only [List.getElem_toArray, List.getElem_cons_succ, List.getElem_cons_zero, Act.put, List.setIfInBounds_toArray, List.set_cons_zero, List.set_cons_succ]
      refine wpAnyH_take (i := 25) (v := ?_) rfl (by kernel_rfl) (by kernel_rfl) (by kernel_rfl) (fun _ _ _ h => h) (Or.inl ⟨by rfl, ?_⟩) kQ ?_
      rotate_left
      · (intro w9 hS9; (try dsimp only at hS9); go_simp; (try with_reducible rfl))
      simp only [List.getElem_toArray, List.getElem_cons_succ, List.getElem_cons_zero, Act.put, List.setIfInBounds_toArray, List.set_cons_zero, List.set_cons_succ]
      refine wpAnyH_done (by kernel_rfl) ?_ _
      refine NoPanic.normal ?_
      have hsz := HB.out.size
      have HBN := hidT (HB.out.trans (NB.out.mono hsz))
      have hq1 := kQ.1
      clear kQ hbox c1 c2 c3 n1 n2 n3
      go_wp2
      go_roundw
      case rel => exact ⟨k + 1, by omega, by go_num, HBN.out, hq1, _, rfl, HNEW⟩
      case measure => simp [intOf]; omega
    · obtain rfl : k = l.length := by omega
      have HF : Hid (s = R) := by unfold Hid; rw [HS.out, HEND.out]
      have HB := hidT hbel
      clear hbel HS
      go_wp2
      go_ret
      exact ⟨by rw [← HF.out]; rfl, HB.out⟩
set_option maxRecDepth 100000 in
set_option maxHeartbeats 1000000 in
theorem specTB_any (v : Value) (l : List Fl) (w : World) (h : Files w v l) (hn : l.length ≤ maxLen) (hs : ∀ y ∈ l, y.p.size ≤ maxLen ∧ y.d.size ≤ maxLen) :
    Calls Tryd.prog 13 #[.agg #[v]] w fun e w' => e = .returned (.string (treeO l)) ∧ Below w.heap.size w w' := by
  have K1 : Hid (∀ W, Files W v l → Calls Tryd.prog 23 #[.agg #[v]] W fun e w' => e = .returned (.bool (treeR l)) ∧ Below W.heap.size W w') := fun W hW => specTR_any v l W hW hn hs
  have K2 : Hid (treeR l = true → ∀ W, Files W v l → Calls Tryd.prog 24 #[.agg #[v]] W fun e w' => e = .returned (.string (treeB l)) ∧ Below W.heap.size W w') := fun hr W hW => l07Bytes_any v l W hW hr
  have HF := hidT h
  unfold treeO
  generalize treeR l = z at *
  generalize treeB l = R at *
  have hB0 := (Below.refl w.heap.size w).alloc (Nat.le_refl _) (.cells #[v] 24)
  clear h hn hs
  cases z
  · go_enter Tryd.func13, Tryd.ntmps13
    go_wp2_with fail
    refine (K1.out _ (by first | exact HF.out | exact Files.below HF.out hB0)).mono ?_
    rintro e w1 ⟨rfl, hb1⟩
    go_wp2
    go_ret
    exact ⟨rfl, by first | exact hb1 | exact bstep hB0 hb1⟩
  · have K2' := hidT (K2.out rfl)
    clear K2
    go_enter Tryd.func13, Tryd.ntmps13
    go_wp2_with fail
    refine (K1.out _ (by first | exact HF.out | exact Files.below HF.out hB0)).mono ?_
    rintro e w1 ⟨rfl, hb1⟩
    have HB1 : Hid (Below w.heap.size w w1) := by first | exact hb1 | exact bstep hB0 hb1
    try (have hx1 := (hb1.cell (p := ⟨w.heap.size, 0, none⟩) (by simp)); simp at hx1)
    clear hb1
    go_wp2_with fail
    refine (K2'.out _ (Files.below HF.out HB1.out)).mono ?_
    rintro e w2 ⟨rfl, hb2⟩
    go_wp2
    go_ret
    exact ⟨rfl, bstep HB1.out hb2⟩
end Go.Proofs.YtjgkekgieodhnaaDoor.Tre
