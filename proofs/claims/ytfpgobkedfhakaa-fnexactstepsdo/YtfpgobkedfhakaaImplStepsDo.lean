/- What the program's StepsDo answers. -/
import Derived.Test.YtfpgobkedfhakaaSpecStepsDo
import Derived.Test.YtfpgobkedfhakaaTogether2
namespace Go.Proofs.Ytfpgobkedfhakaa.Del
open Go.RowKit Go.Proofs.Ytfpgobkedfhakaa.Mem Go.Proofs.Ytfpgobkedfhakaa.Mark Go.Proofs.Ytfpgobkedfhakaa.Harn Go.Proofs.Ytfpgobkedfhakaa.Rws Go.Proofs.Ytfpgobkedfhakaa.Gf Go.Proofs.Ytfpgobkedfhakaa.Frm

/-- the texts that the steps make -/
def textsOf (old : ByteArray) (l : List Pc) : List ByteArray := match l with
  | [] => []
  | x :: l => pieceOf old x :: x.t :: textsOf old l
theorem textsOf_len (old : ByteArray) (l : List Pc) : (textsOf old l).length = 2 * l.length := by
  induction l with
  | nil => rfl
  | cons x l ih => simp [textsOf, ih]; omega
theorem textsOf_snoc (old : ByteArray) (l : List Pc) (x : Pc) : textsOf old (l ++ [x]) = textsOf old l ++ [pieceOf old x, x.t] := by
  induction l with
  | nil => rfl
  | cons y l ih => simp [textsOf, ih]
theorem textsOf_one (old : ByteArray) (l : List Pc) (k : Nat) (h : k < l.length) : textsOf old (l.take (k + 1)) = textsOf old (l.take k) ++ [pieceOf old l[k], l[k].t] := by
  rw [List.take_succ_eq_append_getElem h, textsOf_snoc]
theorem cat_push (acc a b : ByteArray) (L : List UInt8) : (acc ++ a ++ b).data.toList ++ L = acc.data.toList ++ (a.data.toList ++ (b.data.toList ++ L)) := by simp
/-- where no step takes too much, the whole is the texts, one behind the other -/
theorem do_all {old : ByteArray} : ∀ (l : List Pc) (acc : ByteArray), (∀ x ∈ l, ¬ (old.size : Int) < x.f + x.m) → doGo old l acc = if 80 < acc.size + (catL (textsOf old l)).length then (ByteArray.empty, 9) else (⟨(acc.data.toList ++ catL (textsOf old l)).toArray⟩, 0)
  | [], acc, _ => by
    have e : (⟨(acc.data.toList ++ catL (textsOf old [])).toArray⟩ : ByteArray) = acc := by apply ByteArray.ext; simp [textsOf, catL]
    rw [e]
    simp [doGo, textsOf, catL]
  | x :: l, acc, h => by
    have h0 := h x (by simp)
    rw [doGo, if_neg h0, do_all l _ fun y hy => h y (by simp [hy])]
    have e1 : (acc ++ pieceOf old x ++ x.t).size + (catL (textsOf old l)).length = acc.size + (catL (textsOf old (x :: l))).length := by
      simp only [textsOf, catL, List.length_append, ByteArray.size_append]
      have a1 : (pieceOf old x).data.toList.length = (pieceOf old x).size := rfl
      have a2 : x.t.data.toList.length = x.t.size := rfl
      omega
    rw [e1, cat_push]
    rfl
theorem do_from {old : ByteArray} {l : List Pc} {k : Nat} (hk : k < l.length) (hb : ∀ j (hj : j < l.length), j < k → ¬ (old.size : Int) < l[j].f + l[j].m) (h : (old.size : Int) < l[k].f + l[k].m) : ∀ acc, doGo old l acc = (ByteArray.empty, 8) := by
  induction l generalizing k with
  | nil => simp at hk
  | cons x l ih =>
    intro acc
    cases k with
    | zero =>
      have h' : (old.size : Int) < x.f + x.m := h
      rw [doGo, if_pos h']
    | succ k =>
      have h0 : ¬ (old.size : Int) < x.f + x.m := hb 0 (by simp) (by omega)
      rw [doGo, if_neg h0]
      exact ih (k := k) (by simpa using hk) (fun j hj hjk => hb (j + 1) (by simpa using hj) (by omega)) h _
/-- how long the texts of the first k steps are -/
theorem texts_short {old : ByteArray} : ∀ (l : List Pc), (∀ x ∈ l, stepR x = true) → (catL (textsOf old l)).length ≤ 80 * l.length
  | [], _ => by simp [textsOf, catL]
  | x :: l, h => by
    have h1 := texts_short (old := old) l fun y hy => h y (by simp [hy])
    obtain ⟨b1, b2, b3, b4, b5⟩ := stepR_bd (h x (by simp))
    have h2 := piece_size old b1 b3
    have a1 : (pieceOf old x).data.toList.length = (pieceOf old x).size := rfl
    have a2 : x.t.data.toList.length = x.t.size := rfl
    simp only [textsOf, catL, List.length_append, List.length_cons]
    omega
/-- the first k steps take no more than there is -/
def InR (old : ByteArray) (l : List Pc) (k : Nat) : Prop := ∀ j (hj : j < l.length), j < k → ¬ (old.size : Int) < l[j].f + l[j].m
theorem row_grown2 {W W' : World} {g : Nat} {r : Option Nat} {cs : List Value} {e : TypeId} (h : HasRow W g cs e) (hg : W.grownBy W' r) (hr : r ≠ some g) : HasRow W' g cs e := by
  have h0 : W.heap[g]? = some (.cells cs.toArray e (0, 0)) := h
  obtain ⟨hl, _⟩ := Array.getElem?_eq_some_iff.1 h0
  show W'.heap[g]? = _
  rw [hg.block g hl (fun e => hr e.symm)]; exact h0
set_option maxRecDepth 100000 in
set_option maxHeartbeats 2000000 in
theorem implSD_any (old : ByteArray) (v : Value) (l : List Pc) (w : World) (h : Ls w v l) (ho : old.size ≤ maxLen) (hn : l.length ≤ maxLen) (hs : ∀ y ∈ l, okSz y) :
    Calls Try.prog 33 #[.string old, v] w fun e w' => e = .returned (textO (doO old l).1 (doO old l).2) ∧ Below w.heap.size w w' := by
  have KR := hidR (fun W (hW : Ls W v l) => implSteps_any v l W hW hn hs)
  have HF := hidR h
  obtain ⟨a, cap, rfl, hc⟩ := h.at
  have HC := hidR hc
  have HO : Hid (doO old l = if 8000 < old.size ∨ 400 < l.length then (ByteArray.empty, 2) else if 80 < old.size ∨ stepsR l = false then (ByteArray.empty, 1) else doGo old l ByteArray.empty) := rfl
  have HR0 := hidR (Sha.row_new w [.string ByteArray.empty, .int .i64 0, .int .i64 0] 58)
  have HB0 : Hid (Below w.heap.size w (w.alloc (.cells #[.string ByteArray.empty, .int .i64 0, .int .i64 0] 58))) := (Below.refl _ _).alloc (Nat.le_refl _) _
  unfold textO
  generalize doO old l = dO at *
  unfold maxLen at ho hn
  clear h hc
  by_cases h1 : 8000 < old.size
  · have p1 : (8000 : Int) < (old.size : Int) := by omega
    rw [if_pos (.inl h1)] at HO
    go_enter Try.func33, Try.ntmps33
    go_wp2
    exact bodyPost_ret (v := .agg #[.string ByteArray.empty, .int .i64 0, .int .i64 2]) (by simp [results, Try.results33, go_sem, empty_lit]) rfl ⟨by rw [HO.out], (Below.refl _ _).alloc (Nat.le_refl _) _⟩
  · have p1 : ¬ (8000 : Int) < (old.size : Int) := by omega
    by_cases h2 : 400 < l.length
    · have p2 : (400 : Int) < (l.length : Int) := by omega
      rw [if_pos (.inr h2)] at HO
      go_enter Try.func33, Try.ntmps33
      go_wp2
      exact bodyPost_ret (v := .agg #[.string ByteArray.empty, .int .i64 0, .int .i64 2]) (by simp [results, Try.results33, go_sem, empty_lit]) rfl ⟨by rw [HO.out], (Below.refl _ _).alloc (Nat.le_refl _) _⟩
    · have p2 : ¬ (400 : Int) < (l.length : Int) := by omega
      rw [if_neg (by omega)] at HO
      by_cases h3 : 80 < old.size
      · have p3 : (80 : Int) < (old.size : Int) := by omega
        rw [if_pos (.inl h3)] at HO
        go_enter Try.func33, Try.ntmps33
        go_wp2
        exact bodyPost_ret (v := .agg #[.string ByteArray.empty, .int .i64 0, .int .i64 1]) (by simp [results, Try.results33, go_sem, empty_lit]) rfl ⟨by rw [HO.out], (Below.refl _ _).alloc (Nat.le_refl _) _⟩
      · have p3 : ¬ (80 : Int) < (old.size : Int) := by omega
        have HRL : Hid (stepsR l = true → l.length ≤ 3 ∧ ∀ x ∈ l, stepR x = true) := fun h => ⟨stepsR_len h, stepsR_at h⟩
        generalize stepsR l = z at *
        cases z
        · rw [if_pos (.inr rfl)] at HO
          clear HRL HC
          go_enter Try.func33, Try.ntmps33
          go_wp2_with fail
          refine (KR.out _ (HF.out.below ((Below.refl _ _).alloc (Nat.le_refl _) _))).mono ?_
          rintro e w1 ⟨rfl, hb1⟩
          have hr1 := Sha.row_below HR0.out hb1 (by simp)
          have o0 : w1.cell? ⟨w.heap.size, 0, none⟩ = some (.string ByteArray.empty) := Mem.cell_of_row hr1 0
          have o1 : w1.cell? ⟨w.heap.size, 1, none⟩ = some (.int .i64 0) := Mem.cell_of_row hr1 1
          have o2 : w1.cell? ⟨w.heap.size, 2, none⟩ = some (.int .i64 0) := Mem.cell_of_row hr1 2
          have of0 := Mem.frozen_of_row hr1 0
          have of1 := Mem.frozen_of_row hr1 1
          have of2 := Mem.frozen_of_row hr1 2
          have HB := hidR (bstep HB0.out hb1)
          clear hr1 hb1
          go_wp2
          exact bodyPost_ret (v := .agg #[.string ByteArray.empty, .int .i64 0, .int .i64 1]) (by simp [results, Try.results33, go_sem, o0, o1, o2, empty_lit]) rfl ⟨by rw [HO.out], ((HB.out.setCell (p := ⟨w.heap.size, 0, none⟩) (Nat.le_refl _) _).setCell (p := ⟨w.heap.size, 1, none⟩) (Nat.le_refl _) _).setCell (p := ⟨w.heap.size, 2, none⟩) (Nat.le_refl _) _⟩
        · rw [if_neg (by simp; omega)] at HO
          obtain ⟨hl3, hst⟩ := HRL.out rfl
          have HR := hidR hst
          clear HRL hst
          go_enter Try.func33, Try.ntmps33
          go_wp2_with fail
          refine (KR.out _ (HF.out.below ((Below.refl _ _).alloc (Nat.le_refl _) _))).mono ?_
          rintro e w1 ⟨rfl, hb1⟩
          have HB1 := hidR (bstep HB0.out hb1)
          have HR1 := hidR (Sha.row_below HR0.out hb1 (by simp))
          clear hb1 HB0 HR0 HF KR
          go_wp2
          go_loopw [5, 30] (fun u i wr => ∃ k : Nat, k ≤ l.length ∧ i = .int .i64 k ∧ OwnS wr (w.heap.size + 1) u (textsOf old (l.take k)) ∧ Below w.heap.size w wr ∧ HasRow wr w.heap.size [.string ByteArray.empty, .int .i64 0, .int .i64 0] 58 ∧ InR old l k) (fun _ i _ => 5 - (intOf i).toNat)
          case atStart => exact ⟨0, by omega, rfl, World.ownsRow_nil _ _ _ _, HB1.out, HR1.out, fun j _ h => by omega⟩
          case round =>
            clear HB1 HR1
            obtain ⟨k, hk, rfl, hown, hbel, hrow, HQ⟩ := hrel
            have o0 : wr.cell? ⟨w.heap.size, 0, none⟩ = some (.string ByteArray.empty) := Mem.cell_of_row hrow 0
            have o1 : wr.cell? ⟨w.heap.size, 1, none⟩ = some (.int .i64 0) := Mem.cell_of_row hrow 1
            have o2 : wr.cell? ⟨w.heap.size, 2, none⟩ = some (.int .i64 0) := Mem.cell_of_row hrow 2
            have of0 := Mem.frozen_of_row hrow 0
            have of1 := Mem.frozen_of_row hrow 1
            have of2 := Mem.frozen_of_row hrow 2
            have hlw : w.heap.size < wr.heap.size := World.block_lt_of_cell? wr _ o0
            have HROW := hidR hrow
            have HB := hidR hbel
            have HOWN := hidR hown
            have HLEN : Hid ((textsOf old (l.take k)).length ≤ 100) := by
              show _ ≤ _
              rw [textsOf_len]; simp; omega
            by_cases hlt : k < l.length
            · have p4 : (k : Int) < (l.length : Int) := by omega
              obtain ⟨b, o, rfl, d0, d1, d2⟩ := HC.out k hlt
              have c0 : wr.cell? ⟨b, o + k * 3, none⟩ = _ := (hbel.cell (World.block_lt_of_cell? w _ d0)).trans d0
              have c1 : wr.cell? ⟨b, o + k * 3 + 1, none⟩ = _ := (hbel.cell (World.block_lt_of_cell? w _ d1)).trans d1
              have c2 : wr.cell? ⟨b, o + k * 3 + 2, none⟩ = _ := (hbel.cell (World.block_lt_of_cell? w _ d2)).trans d2
              obtain ⟨b1, b2, b3, b4, b5⟩ := stepR_bd (HR.out _ (List.getElem_mem hlt))
              have HT := hidR (textsOf_one old l k hlt)
              have HG : Hid ((old.size : Int) < l[k].f + l[k].m → doGo old l ByteArray.empty = (ByteArray.empty, 8)) := fun h => do_from hlt HQ h _
              have HN : Hid (¬ (old.size : Int) < l[k].f + l[k].m → InR old l (k + 1)) := fun h j hj hjk => by
                by_cases e : j = k
                · subst e; exact h
                · exact HQ j hj (by omega)
              have HSL : Hid (¬ (old.size : Int) < l[k].f + l[k].m → ∀ W, (Instr.slice 9 (.string old) (some (.int .i64 l[k].f)) (some (.int .i64 (l[k].f + l[k].m))) none).run Try.prog W = .ok (.string (pieceOf old l[k])) W) := fun h W => slice_text old _ _ (by omega) (by omega) _ _ (by omega) (by omega) W
              generalize pieceOf old l[k] = pc at *
              generalize l[k].f = x0 at *
              generalize l[k].m = x1 at *
              generalize l[k].t = x2 at *
              generalize textsOf old (l.take k) = ls at *
              clear d0 d1 d2 hbel hrow HQ hown
              by_cases hrg : (old.size : Int) < x0 + x1
              · have HE := hidR (HG.out hrg)
                clear HN HG HSL
                go_wp2
                exact bodyPost_ret (v := .agg #[.string ByteArray.empty, .int .i64 0, .int .i64 8]) (by simp [results, Try.results33, go_sem, o0, o1, o2, hlw, World.cell?_alloc_lt, empty_lit]) rfl ⟨by rw [HO.out, HE.out], balloc (((HB.out.setCell (p := ⟨w.heap.size, 0, none⟩) (Nat.le_refl _) _).setCell (p := ⟨w.heap.size, 1, none⟩) (Nat.le_refl _) _).setCell (p := ⟨w.heap.size, 2, none⟩) (Nat.le_refl _) _) _⟩
              · have HE := hidR (HN.out hrg)
                have hsl := HSL.out hrg
                have w1 : IntKind.i64.wrap (x0 + x1) = x0 + x1 := IntWalk.i64_in _ ⟨by omega, by omega⟩
                have HOB : Hid (OwnS (wr.alloc (.cells #[.int .i64 x0, .int .i64 x1, .string x2] 88)) (w.heap.size + 1) u5 ls) := HOWN.out.below ((Below.refl _ _).alloc (Nat.le_refl _) _) (Nat.le_refl _)
                have HBB := hidR (balloc HB.out (.cells #[.int .i64 x0, .int .i64 x1, .string x2] 88))
                have HRB := hidR (Sha.row_alloc HROW.out (.cells #[.int .i64 x0, .int .i64 x1, .string x2] 88))
                have ag : Hid (u5.ownBlock ≠ some w.heap.size) := fun e => by have := (OwnV.lt HOWN.out _ e).1; omega
                have ag2 : Hid (some wr.heap.size ≠ u5.ownBlock) := fun e => by have := (OwnV.lt HOWN.out _ e.symm).2; omega
                have q0 : (wr.alloc (.cells #[.int .i64 x0, .int .i64 x1, .string x2] 88)).cell? ⟨wr.heap.size, 0, none⟩ = some (.int .i64 x0) := by simp
                have q2 : (wr.alloc (.cells #[.int .i64 x0, .int .i64 x1, .string x2] 88)).cell? ⟨wr.heap.size, 2, none⟩ = some (.string x2) := by simp
                clear HN HG HSL HOWN HROW HB
                go_wp2_with fail
                go_region_held3 (fun W => W.cell? ⟨wr.heap.size, 0, none⟩ = some (.int .i64 x0) ∧ W.cell? ⟨wr.heap.size, 2, none⟩ = some (.string x2))
                  (first
                    | go_keep
                    | (exact kQ))
                  ((refine step_lits (by rfl) _ _ (by rfl) (w.heap.size + 1) (wr.heap.size + 1) 2 _ _ [pc, x2] (by rfl) (by rfl) (by rfl) (HOB.out.below ((Below.refl _ _).drew.alloc (by simp) _) (Nat.le_refl _)) (by simp; omega) (Sha.row_new_at _ [.string pc, .string x2] _ _ (by simp)) (by simp) (by have := HLEN.out; simp; omega) ?_; intro g c w6 ho6 hg6; (have kQ : w6.cell? ⟨wr.heap.size, 0, none⟩ = some (.int .i64 x0) ∧ w6.cell? ⟨wr.heap.size, 2, none⟩ = some (.string x2) := ⟨(hg6.cell_far ⟨wr.heap.size, 0, none⟩ (by simp; omega) ag2.out).trans (by simp), (hg6.cell_far ⟨wr.heap.size, 2, none⟩ (by simp; omega) ag2.out).trans (by simp)⟩); (have HO6 := hidR ho6); (have HB6 := hidR (Below.grown ((HBB.out.drew).alloc (by simp; omega) _) hg6 (by simp; omega) (fun j hj => by have := (OwnV.lt HOB.out j hj).1; omega))); (have HR6 := hidR (row_grown2 (Sha.row_alloc (Sha.row_drew HRB.out) _) hg6 ag.out)); clear ho6 hg6; simp only [CutCall.shut_cut] at *))
                unfold Hid
                refine wpAnyH_take (i := 10) (v := ?_) rfl (by kernel_rfl) (by kernel_rfl) (by kernel_rfl) (fun _ _ _ h => h) (Or.inl ⟨by rfl, ?_⟩) kQ ?_
                rotate_left
                · (intro w9 hS9; (try dsimp only at hS9); go_simp; (try with_reducible rfl))
                simp only [List.getElem_toArray, List.getElem_cons_succ, List.getElem_cons_zero, Act.put, List.setIfInBounds_toArray, List.set_cons_zero, List.set_cons_succ]
                refine wpAnyH_done (by kernel_rfl) ?_ _
                refine NoPanic.normal ?_
                clear kQ c0 c1 c2 q0 q2 o0 o1 o2 of0 of1 of2 hsl
                go_wp2
                go_roundw
                case rel => exact ⟨k + 1, by omega, by go_num, by rw [HT.out]; exact HO6.out, HB6.out, HR6.out, HE.out⟩
                case measure => simp [intOf]; omega
            · have e : k = l.length := by omega
              subst e
              rw [List.take_length] at hown HLEN
              have hshort := texts_short (old := old) l HR.out
              have HDO : Hid (doGo old l ByteArray.empty = if 80 < (catL (textsOf old l)).length then (ByteArray.empty, 9) else (⟨(catL (textsOf old l)).toArray⟩, 0)) := by
                have := do_all (old := old) l ByteArray.empty (fun x hx => by
                  obtain ⟨j, hj, rfl⟩ := List.getElem_of_mem hx
                  exact HQ j hj hj)
                show _ = _
                simpa using this
              have KT := hidR (together_all u5 (textsOf old l) wr hown.strs (by omega) (by have := HLEN.out; omega))
              have hsz : (⟨(catL (textsOf old l)).toArray⟩ : ByteArray).size = (catL (textsOf old l)).length := by
                show (catL (textsOf old l)).toArray.size = _
                simp
              clear hbel hrow hown HQ HOWN o0 o1 o2 of0 of1 of2 hshort
              generalize hcl : (⟨(catL (textsOf old l)).toArray⟩ : ByteArray) = ct at *
              rw [← hsz] at HDO
              clear hcl hsz
              go_wp2_with fail
              refine (KT.out).mono ?_
              rintro e w2 ⟨rfl, hb2⟩
              have hr1 := Sha.row_below HROW.out hb2 hlw
              have o0 : w2.cell? ⟨w.heap.size, 0, none⟩ = some (.string ByteArray.empty) := Mem.cell_of_row hr1 0
              have o1 : w2.cell? ⟨w.heap.size, 1, none⟩ = some (.int .i64 0) := Mem.cell_of_row hr1 1
              have o2 : w2.cell? ⟨w.heap.size, 2, none⟩ = some (.int .i64 0) := Mem.cell_of_row hr1 2
              have of0 := Mem.frozen_of_row hr1 0
              have of1 := Mem.frozen_of_row hr1 1
              have of2 := Mem.frozen_of_row hr1 2
              have HB2 := hidR (bstep HB.out hb2)
              clear hr1 hb2 HB KT HROW
              by_cases h80 : 80 < ct.size
              · rw [if_pos h80] at HDO
                have p7 : (80 : Int) < (ct.size : Int) := by omega
                go_wp2
                exact bodyPost_ret (v := .agg #[.string ByteArray.empty, .int .i64 0, .int .i64 9]) (by simp [results, Try.results33, go_sem, o0, o1, o2, empty_lit]) rfl ⟨by rw [HO.out, HDO.out], ((HB2.out.setCell (p := ⟨w.heap.size, 0, none⟩) (Nat.le_refl _) _).setCell (p := ⟨w.heap.size, 1, none⟩) (Nat.le_refl _) _).setCell (p := ⟨w.heap.size, 2, none⟩) (Nat.le_refl _) _⟩
              · rw [if_neg h80] at HDO
                have p7 : ¬ (80 : Int) < (ct.size : Int) := by omega
                go_wp2
                exact bodyPost_ret (v := .agg #[.string ct, .int .i64 0, .int .i64 0]) (by simp [results, Try.results33, go_sem, o0, o1, o2, empty_lit]) rfl ⟨by rw [HO.out, HDO.out], ((HB2.out.setCell (p := ⟨w.heap.size, 0, none⟩) (Nat.le_refl _) _).setCell (p := ⟨w.heap.size, 1, none⟩) (Nat.le_refl _) _).setCell (p := ⟨w.heap.size, 2, none⟩) (Nat.le_refl _) _⟩
end Go.Proofs.Ytfpgobkedfhakaa.Del
