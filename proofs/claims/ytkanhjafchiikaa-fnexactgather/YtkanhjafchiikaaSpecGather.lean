/- What the model's Gather answers. -/
import Derived.Test.YtkanhjafchiikaaSpecGath
import Derived.Test.YtkanhjafchiikaaTextsG
namespace Go.Proofs.Ytkanhjafchiikaa.Srt
open Go.RowKit Go.Proofs.Ytkanhjafchiikaa.Mem Go.Proofs.Ytkanhjafchiikaa.Harn Go.Proofs.Ytkanhjafchiikaa.Gf

set_option maxRecDepth 100000 in
set_option maxHeartbeats 1000000 in
theorem specGather_big (need more size : Int) (a : Option Addr) (cap : Nat) (l : List E) (w : World) (hb : 400 < l.length) (_ : l.length ≤ 1100000) :
    Calls Try.prog 13 #[.int .i64 need, .int .i64 more, .int .i64 size, .slice a l.length cap] w fun e w' => e = .returned (outT (ByteArray.empty, 2)) ∧ Below w.heap.size w w' := by
  have p1 : (400 : Int) < (l.length : Int) := by omega
  go_enter Try.func13, Try.ntmps13
  go_wp2
  exact bodyPost_ret (v := outT (ByteArray.empty, 2)) (by simp [results, Try.results13, go_sem, outT]; rfl) rfl ⟨rfl, (Below.refl _ _).alloc (Nat.le_refl _) _⟩

set_option maxRecDepth 100000 in
set_option maxHeartbeats 2000000 in
theorem specGather_any (need more size : Int) (a : Option Addr) (cap : Nat) (l l' : List E) (w : World) (h : Pends w (.slice a l.length cap) l) (hb : l.length ≤ 400) (hp : l'.Perm l) (hs : Sorted l' 0 l'.length) :
    Calls Try.prog 13 #[.int .i64 need, .int .i64 more, .int .i64 size, .slice a l.length cap] w fun e w' => e = .returned (outT (gatherR need more size l')) ∧ Below w.heap.size w w' := by
  have p1 : ¬ (400 : Int) < (l.length : Int) := by omega
  have HFN : Hid (∀ W, Calls Try.prog 37 #[.int .i64 need, .int .i64 more, .int .i64 size] W fun e w' => e = .returned (.bool (fineB need more size)) ∧ W = w') := fun W => specFine_any need more size W
  by_cases hf : fineB need more size = true
  · obtain ⟨n, m, s, rfl, rfl, rfl, q1, q2, q3, q4, q5⟩ := fine_parts hf
    have HO : Hid (gatherR (n : Nat) (m : Nat) (s : Nat) l' = if rightB n m s l' = true then (if l'.length < n then (ByteArray.empty, 4) else if (l'.all (pieceB n m (gatherT n s l'))) = true then (gatherT n s l', 0) else (ByteArray.empty, 5)) else (ByteArray.empty, 1)) := by
      show _ = _
      unfold gatherR
      rw [hf]
      simp only [Bool.true_and, Int.toNat_natCast, Int.ofNat_lt]
    rw [hf] at HFN
    have HRB : Hid (rightB n m s l' = true ↔ Good n m s l) := rightB_perm hp hs
    have HRI : Hid (rightB n m s l' = true → l'.Pairwise (fun a b => a.1 < b.1)) := fun hr => rise_pair.1 (rightB_rise hs hr)
    have HP : Hid (l'.Perm l) := hp
    have HROW : Hid (∀ W, Below w.heap.size w W → Calls Try.prog 41 #[.int .i64 (n : Nat), .int .i64 (m : Nat), .int .i64 (s : Nat), .slice a l.length cap] W fun e w' => ∃ u b, e = .returned (.tuple #[u, .bool b]) ∧ (b = true → ∃ r g c, u = .slice (some ⟨g, 0, none⟩) l.length c ∧ r.Perm l ∧ r.Pairwise (fun a b => a.1 < b.1) ∧ Good n m s l ∧ ShAt w' g 0 r ∧ l.length ≤ c) ∧ (b = false → ¬ Good n m s l) ∧ Below W.heap.size W w') := fun W hB => row_any n m s _ l W (Pends.below h hB) hb q1 q2 q3 q4 q5
    have HLB : Hid (l.length ≤ 400) := hb
    clear h hf hp hs hb
    go_enter Try.func13, Try.ntmps13
    go_wp2_with (go_at_call 37; refine (HFN.out _).mono ?_; rintro e w' ⟨rfl, rfl⟩)
    refine (HROW.out _ (bself1 _)).mono ?_
    rintro e w2 ⟨u, bb, rfl, hyes, hno, hb2⟩
    have HB2 : Hid (Below w.heap.size w w2) := bstep (bself1 _) hb2
    have HX2 : Hid (Box3 w2 w.heap.size) := (box3_new w).below hb2 (by simp)
    have hz2 : w.heap.size < w2.heap.size := by have := hb2.size; simp at this; omega
    clear hb2
    cases bb
    · have HO2 : Hid (gatherR (n : Nat) (m : Nat) (s : Nat) l' = (ByteArray.empty, 1)) := by
        have h1 : ¬ rightB n m s l' = true := fun h => hno rfl (HRB.out.1 h)
        show _ = _
        rw [HO.out, if_neg h1]
      obtain ⟨r0, r1, r2, r3⟩ := HX2.out.cells
      clear hyes hno
      go_wp2
      exact bodyPost_ret (v := outT (ByteArray.empty, 1)) (by simp [results, Try.results13, go_sem, outT, r0, r1, r2]; try rfl) rfl ⟨by rw [HO2.out], ((HB2.out.setCell (p := ⟨w.heap.size, 0, none⟩) (Nat.le_refl _) _).setCell (p := ⟨w.heap.size, 1, none⟩) (Nat.le_refl _) _).setCell (p := ⟨w.heap.size, 2, none⟩) (Nat.le_refl _) _⟩
    · obtain ⟨r, g, c, rfl, hrp, hrs, hgood, hsh, hcap⟩ := hyes rfl
      have hrb := HRB.out.2 hgood
      obtain rfl : r = l' := rise_one (hrp.trans HP.out.symm) hrs (HRI.out hrb)
      have hlen : r.length = l.length := hrp.length_eq
      rw [← hlen] at hcap ⊢
      have HO2 : Hid (gatherR (n : Nat) (m : Nat) (s : Nat) r = if r.length < n then (ByteArray.empty, 4) else if (r.all (pieceB n m (gatherT n s r))) = true then (gatherT n s r, 0) else (ByteArray.empty, 5)) := by show _ = _; rw [HO.out, if_pos hrb]
      have HOK : Hid (∀ e ∈ r, okS n m s e = true) := fun e he => hgood.1 e (hrp.subset he)
      have HRS : Hid (r.Pairwise (fun a b => a.1 < b.1)) := hrs
      have HSH : Hid (ShAt w2 g 0 r) := hsh
      have HL4 : Hid (r.length ≤ 400) := by rw [hlen]; exact HLB.out
      obtain ⟨r0, r1, r2, r3⟩ := HX2.out.cells
      clear hno hyes hrp hrs hgood hsh hrb HO HRB HRI HP HROW HFN
      by_cases hn : r.length < n
      · have HO3 : Hid (gatherR (n : Nat) (m : Nat) (s : Nat) r = (ByteArray.empty, 4)) := by show _ = _; rw [HO2.out, if_pos hn]
        have p2 : (r.length : Int) < (n : Int) := by omega
        clear hlen
        go_wp2
        exact bodyPost_ret (v := outT (ByteArray.empty, 4)) (by simp [results, Try.results13, go_sem, outT, r0, r1, r2]; try rfl) rfl ⟨by rw [HO3.out], ((HB2.out.setCell (p := ⟨w.heap.size, 0, none⟩) (Nat.le_refl _) _).setCell (p := ⟨w.heap.size, 1, none⟩) (Nat.le_refl _) _).setCell (p := ⟨w.heap.size, 2, none⟩) (Nat.le_refl _) _⟩
      · have HO3 : Hid (gatherR (n : Nat) (m : Nat) (s : Nat) r = gatherS n m s r) := by
          show _ = _
          rw [HO2.out, if_neg hn]
          exact gather_same q1 q2 q3 (by omega) HOK.out HRS.out
        have p2 : ¬ (r.length : Int) < (n : Int) := by omega
        have HGT : Hid (Calls Try.prog 42 #[.int .i64 (n : Nat), .int .i64 (m : Nat), .int .i64 (s : Nat), .slice (some ⟨g, 0, none⟩) r.length c] w2 fun e w' => e = .returned (outT (gatherS n m s r)) ∧ Below w2.heap.size w2 w') :=
          specGath_any n m s _ c r w2 ⟨_, c, rfl, fun j hj => ⟨g, 0, rfl, (HSH.out j hj).1, (HSH.out j hj).2⟩⟩ HL4.out q1 q2 q3 q4 q5 (by omega) HOK.out
        generalize gatherS n m s r = o at *
        obtain ⟨ot, oc⟩ := o
        have HGT' : Hid (Calls Try.prog 42 #[.int .i64 (n : Nat), .int .i64 (m : Nat), .int .i64 (s : Nat), .slice (some ⟨g, 0, none⟩) r.length c] w2 fun e w' => e = .returned (.agg #[.string ot, .int .i64 0, .int .i64 oc]) ∧ Below w2.heap.size w2 w') := HGT.out
        clear hlen hn HGT r0 r1 r2 r3
        go_wp2_with fail
        refine HGT'.out.mono ?_
        rintro e w3 ⟨rfl, hb3⟩
        have HB3 : Hid (Below w.heap.size w w3) := bstep HB2.out hb3
        have HX3 : Hid (Box3 w3 w.heap.size) := HX2.out.below hb3 hz2
        obtain ⟨r0, r1, r2, r3⟩ := HX3.out.cells
        clear hb3
        go_wp2
        exact bodyPost_ret (v := outT (ot, oc)) (by simp [results, Try.results13, go_sem, outT, r0, r1, r2]; try rfl) rfl ⟨by rw [HO3.out], ((HB3.out.setCell (p := ⟨w.heap.size, 0, none⟩) (Nat.le_refl _) _).setCell (p := ⟨w.heap.size, 1, none⟩) (Nat.le_refl _) _).setCell (p := ⟨w.heap.size, 2, none⟩) (Nat.le_refl _) _⟩
  · have hf' : fineB need more size = false := by simpa using hf
    have HO : Hid (gatherR need more size l' = (ByteArray.empty, 1)) := by show _ = _; unfold gatherR; rw [hf']; rfl
    rw [hf'] at HFN
    clear hf hf' h hp hs
    go_enter Try.func13, Try.ntmps13
    go_wp2_with (go_at_call 37; refine (HFN.out _).mono ?_; rintro e w' ⟨rfl, rfl⟩)
    exact bodyPost_ret (v := outT (ByteArray.empty, 1)) (by simp [results, Try.results13, go_sem, outT]; try rfl) rfl ⟨by rw [HO.out], (Below.refl _ _).alloc (Nat.le_refl _) _⟩
end Go.Proofs.Ytkanhjafchiikaa.Srt
