/- The model's look at the head of an area. -/
import Derived.Test.YtkigmpeanllimaaGreatDoorTextsE
import Derived.Test.YtkigmpeanllimaaGreatDoorSpecGetNum
import Derived.Test.YtkigmpeanllimaaGreatDoorSpecUnseal
import Derived.Test.YtkigmpeanllimaaGreatDoorTextsA
namespace Go.Proofs.YtkigmpeanllimaaGreatDoor.Disk
open Go.RowKit Go.Proofs.YtkigmpeanllimaaGreatDoor.Mem Go.Proofs.YtkigmpeanllimaaGreatDoor.Harn Go.Proofs.YtkigmpeanllimaaGreatDoor.DiskP Go.Proofs.YtkigmpeanllimaaGreatDoor.Unseal

/-- The number that is told, 0 beside a code. -/
def nOf (r : Nat × Nat × Nat) : Int := if r.1 = 0 then GetNum.unfoldI r.2.1 else 0
theorem numV (s : ByteArray) (p : Nat) : GetNum.outV (GetNum.rd s p) = .agg #[.int .i64 (nOf (GetNum.rd s p)), .int .i64 ((GetNum.rd s p).2.2 : Nat), .int .i64 ((GetNum.rd s p).1 : Nat)] := by
  rcases GetNum.rd_cases s p with ⟨y, q, h, _⟩ | h | h <;> rw [h] <;> rfl
theorem num_bd (s : ByteArray) (p : Nat) : -9223372036854775808 ≤ nOf (GetNum.rd s p) ∧ nOf (GetNum.rd s p) ≤ 9223372036854775807 ∧ ((GetNum.rd s p).2.2 ≤ s.size) := by
  rcases GetNum.rd_cases s p with ⟨y, q, h, h1, h2⟩ | h | h <;> rw [h]
  · have := GetNum.unfold_bd h1
    exact ⟨this.1, this.2, h2⟩
  · exact ⟨by decide, by decide, by simp⟩
  · exact ⟨by decide, by decide, by simp⟩
theorem specIs_any (a b c : Int) (r : Bool) (w : World) (h : (decide (b ≤ a) && decide (a ≤ c)) = r) : Calls Tryz.prog 65 #[.int .i64 a, .int .i64 b, .int .i64 c] w fun e w' => e = .returned (.bool r) ∧ w = w' := by
  subst h
  by_cases h1 : b ≤ a
  · have d1 : decide (b ≤ a) = true := by simp [h1]
    go_enter Tryz.func65, Tryz.ntmps65
    go_wp2
    go_ret
    exact ⟨by simp [h1], rfl⟩
  · have d1 : decide (b ≤ a) = false := by simp [h1]
    go_enter Tryz.func65, Tryz.ntmps65
    go_wp2
    go_ret
    exact ⟨by simp, rfl⟩

/-- What the numbers of a sealed head come to. -/
structure Nums (ls : List ByteArray) (lp : List (Int × ByteArray)) (h t : ByteArray) (n1 n2 n3 : Int) (c1 c2 c3 : Nat) : Prop where
  bad : c1 ≠ 0 ∨ c2 ≠ 0 ∨ c3 ≠ 0 → seenO ls lp = (0, 0, 0, 3)
  more : c1 = 0 → c2 = 0 → c3 = 0 → headB n1 n2 n3 ≠ h → seenO ls lp = (0, 0, 0, 3)
  out : c1 = 0 → c2 = 0 → c3 = 0 → ¬ (0 ≤ n1 ∧ (0 ≤ n2 ∧ n2 ≤ 1) ∧ (0 ≤ n3 ∧ n3 ≤ ((64 * halfN ls : Nat) : Int))) → seenO ls lp = (0, 0, 0, 3)
  good : c1 = 0 → c2 = 0 → c3 = 0 → headB n1 n2 n3 = h → (0 ≤ n1 ∧ (0 ≤ n2 ∧ n2 ≤ 1) ∧ (0 ≤ n3 ∧ n3 ≤ ((64 * halfN ls : Nat) : Int))) → seenO ls lp = (n1, n2, n3, 0)
theorem seen_short {ls : List ByteArray} {lp : List (Int × ByteArray)} (h : (readD ls lp 0).size < 4) : seenO ls lp = (0, 0, 0, 4) := by unfold seenO; rw [if_pos h]
theorem seen_torn {ls : List ByteArray} {lp : List (Int × ByteArray)} (h : ¬ (readD ls lp 0).size < 4) (h2 : okSeal (readD ls lp 0) = false) : seenO ls lp = (0, 0, 0, 5) := by unfold seenO; rw [if_neg h, if_pos h2]
theorem nums_of {ls : List ByteArray} {lp : List (Int × ByteArray)} (h : ¬ (readD ls lp 0).size < 4) (h2 : okSeal (readD ls lp 0) = true) :
    Nums ls lp (readD ls lp 0) ((readD ls lp 0).extract 0 ((readD ls lp 0).size - 4)) (nOf (GetNum.rd ((readD ls lp 0).extract 0 ((readD ls lp 0).size - 4)) 0)) (nOf (GetNum.rd ((readD ls lp 0).extract 0 ((readD ls lp 0).size - 4)) (GetNum.rd ((readD ls lp 0).extract 0 ((readD ls lp 0).size - 4)) 0).2.2)) (nOf (GetNum.rd ((readD ls lp 0).extract 0 ((readD ls lp 0).size - 4)) (GetNum.rd ((readD ls lp 0).extract 0 ((readD ls lp 0).size - 4)) (GetNum.rd ((readD ls lp 0).extract 0 ((readD ls lp 0).size - 4)) 0).2.2).2.2))
      (GetNum.rd ((readD ls lp 0).extract 0 ((readD ls lp 0).size - 4)) 0).1 (GetNum.rd ((readD ls lp 0).extract 0 ((readD ls lp 0).size - 4)) (GetNum.rd ((readD ls lp 0).extract 0 ((readD ls lp 0).size - 4)) 0).2.2).1 (GetNum.rd ((readD ls lp 0).extract 0 ((readD ls lp 0).size - 4)) (GetNum.rd ((readD ls lp 0).extract 0 ((readD ls lp 0).size - 4)) (GetNum.rd ((readD ls lp 0).extract 0 ((readD ls lp 0).size - 4)) 0).2.2).2.2).1 := by
  have e0 : headNum ((readD ls lp 0).extract 0 ((readD ls lp 0).size - 4)) = none → seenO ls lp = (0, 0, 0, 3) := fun e => by
    unfold seenO
    rw [if_neg h, if_neg (by rw [h2]; decide), e]
  have e1 : ∀ g s n, headNum ((readD ls lp 0).extract 0 ((readD ls lp 0).size - 4)) = some (g, s, n) → seenO ls lp = if 0 ≤ g ∧ (0 ≤ s ∧ s ≤ 1) ∧ (0 ≤ n ∧ n ≤ ((64 * halfN ls : Nat) : Int)) then (g, s, n, 0) else (0, 0, 0, 3) := fun g s n e => by
    unfold seenO
    rw [if_neg h, if_neg (by rw [h2]; decide), e]
  have e2 : ∀ r1 r2 r3 : Nat × Nat × Nat, r1 = GetNum.rd ((readD ls lp 0).extract 0 ((readD ls lp 0).size - 4)) 0 → r2 = GetNum.rd ((readD ls lp 0).extract 0 ((readD ls lp 0).size - 4)) r1.2.2 → r3 = GetNum.rd ((readD ls lp 0).extract 0 ((readD ls lp 0).size - 4)) r2.2.2 → Nums ls lp (readD ls lp 0) ((readD ls lp 0).extract 0 ((readD ls lp 0).size - 4)) (nOf r1) (nOf r2) (nOf r3) r1.1 r2.1 r3.1 := by
    intro r1 r2 r3 h5 h6 h7
    have hh : headNum ((readD ls lp 0).extract 0 ((readD ls lp 0).size - 4)) = if r1.1 = 0 ∧ r2.1 = 0 ∧ r3.1 = 0 ∧ r3.2.2 = ((readD ls lp 0).extract 0 ((readD ls lp 0).size - 4)).size then some (GetNum.unfoldI r1.2.1, GetNum.unfoldI r2.2.1, GetNum.unfoldI r3.2.1) else none := by
      rw [h7, h6, h5]; rfl
    have hs : r1.1 = 0 → r2.1 = 0 → r3.1 = 0 → (headB (nOf r1) (nOf r2) (nOf r3) = readD ls lp 0 ↔ r3.2.2 = ((readD ls lp 0).extract 0 ((readD ls lp 0).size - 4)).size) := by
      intro a1 a2 a3
      have k1 : GetNum.rd ((readD ls lp 0).extract 0 ((readD ls lp 0).size - 4)) 0 = (0, r1.2.1, r1.2.2) := by rw [← h5, ← a1]
      have k2 : GetNum.rd ((readD ls lp 0).extract 0 ((readD ls lp 0).size - 4)) r1.2.2 = (0, r2.2.1, r2.2.2) := by rw [← h6, ← a2]
      have k3 : GetNum.rd ((readD ls lp 0).extract 0 ((readD ls lp 0).size - 4)) r2.2.2 = (0, r3.2.1, r3.2.2) := by rw [← h7, ← a3]
      have k := head_same h2 (by omega) k1 k2 k3
      unfold nOf
      rw [if_pos a1, if_pos a2, if_pos a3]
      exact k
    clear h5 h6 h7
    generalize readD ls lp 0 = hd at *
    generalize hd.extract 0 (hd.size - 4) = t at *
    refine ⟨fun a => e0 ?_, fun a1 a2 a3 a4 => e0 ?_, fun a1 a2 a3 a4 => ?_, fun a1 a2 a3 a4 a5 => ?_⟩
    · rw [hh, if_neg (by omega)]
    · rw [hh, if_neg (fun a => a4 ((hs a1 a2 a3).2 a.2.2.2))]
    · by_cases hq : r3.2.2 = t.size
      · rw [e1 _ _ _ (by rw [hh, if_pos ⟨a1, a2, a3, hq⟩])]
        unfold nOf at a4
        rw [if_pos a1, if_pos a2, if_pos a3] at a4
        exact if_neg a4
      · exact e0 (by rw [hh, if_neg (fun a => hq a.2.2.2)])
    · rw [e1 _ _ _ (by rw [hh, if_pos ⟨a1, a2, a3, (hs a1 a2 a3).1 a4⟩])]
      unfold nOf at a5 ⊢
      rw [if_pos a1, if_pos a2, if_pos a3] at a5 ⊢
      exact if_pos a5
  exact e2 _ _ _ rfl rfl rfl

def BoxN (W : World) (g : Nat) (n : Int) (a c : Nat) : Prop := HasRow W g [.int .i64 n, .int .i64 (a : Int), .int .i64 (c : Int)] 105

set_option maxRecDepth 100000 in
set_option maxHeartbeats 8000000 in
theorem specSeen_any (vs vp : Value) (ls : List ByteArray) (lp : List (Int × ByteArray)) (w : World) (hs : Strs w vs ls) (hp : Pends w vp lp) (hr : rightB ls lp = true) :
    Calls Tryz.prog 38 #[.agg #[vs, vp]] w fun e w' => e = .returned (.tuple #[.int .i64 (seenO ls lp).1, .int .i64 (seenO ls lp).2.1, .int .i64 (seenO ls lp).2.2.1, .int .i64 (seenO ls lp).2.2.2]) ∧ Below w.heap.size w w' := by
  have hl1 := ((right_iff ls lp).1 hr).1
  have hl64 := ((right_iff ls lp).1 hr).2.1
  have h31 := halfN_le hl64
  have hsz := readD_size hr 0 (by omega)
  obtain ⟨W0, hW0⟩ : ∃ W0, W0 = w.alloc (.cells #[vs, vp] 26) := ⟨_, rfl⟩
  have HB0 : Hid (Below w.heap.size w W0) := by rw [hW0]; exact bself _
  have HX0 : Hid (Box2 W0 w.heap.size vs vp) := by rw [hW0]; exact Sha.row_new w [vs, vp] 26
  have HZ0 : Hid (w.heap.size < W0.heap.size) := by rw [hW0]; simp [Hid]
  have HS : Hid (Strs W0 vs ls) := hs.below HB0.out
  have HP : Hid (Pends W0 vp lp) := hp.below HB0.out
  have K0 : Hid (∀ W, Below W0.heap.size W0 W → Calls Tryz.prog 39 #[.agg #[vs, vp], .int .i64 0] W fun e w' => ∃ us up, e = .returned (outV us up (readD ls lp 0) 0) ∧ Below W.heap.size W w') := fun W hb => specRead_at vs vp ls lp 0 _ W hr (by omega) rfl (HS.out.below hb) (HP.out.below hb)
  have KHF : Hid (∀ W, Below W0.heap.size W0 W → Calls Tryz.prog 43 #[.agg #[vs, vp]] W fun e w' => e = .returned (.int .i64 (halfN ls : Nat)) ∧ Below W.heap.size W w') := fun W hb => specHalf_any vs vp ls W (HS.out.below hb) hl1 (by omega)
  have hfo := fldO
  clear hs hp hr
  by_cases h4 : (readD ls lp 0).size < 4
  · have HE : Hid (seenO ls lp = (0, 0, 0, 4)) := seen_short h4
    have KU : Hid (∀ W, Calls Tryz.prog 66 #[.string (readD ls lp 0)] W fun e w' => e = .returned (.agg #[.string ByteArray.empty, .int .i64 0, .int .i64 4]) ∧ Below W.heap.size W w') := fun W => Unseal.specUnseal_short _ W h4
    generalize readD ls lp 0 = h at *
    generalize seenO ls lp = sn at *
    go_enter Tryz.func38, Tryz.ntmps38
    go_wp2_with fail
    rw [← hW0]
    clear hW0
    refine (K0.out _ (Below.refl _ _)).mono ?_
    rintro e u1 ⟨us, up, rfl, hb1⟩
    go_wp2_with fail
    refine (KU.out _).mono ?_
    rintro e u2 ⟨rfl, hb2⟩
    have HB2 : Hid _ := bT (bT HB0.out hb1) hb2
    clear hb1 hb2
    go_wp2_with fail
    go_quiet (fail)
    go_wp2_with fail
    refine bodyPost_ret (v := .tuple #[.int .i64 0, .int .i64 0, .int .i64 0, .int .i64 4]) (by simp [results, Tryz.results38, go_sem]) rfl ⟨?_, ?_⟩
    · rw [HE.out]
    · exact Sha.bel_drewN (bA HB2.out _) _
  cases hk : okSeal (readD ls lp 0)
  · have HE : Hid (seenO ls lp = (0, 0, 0, 5)) := seen_torn h4 hk
    have KU : Hid (∀ W, Calls Tryz.prog 66 #[.string (readD ls lp 0)] W fun e w' => e = .returned (.agg #[.string ByteArray.empty, .int .i64 0, .int .i64 5]) ∧ Below W.heap.size W w') := fun W => by
      have := Unseal.specUnseal_in _ W (by omega : (readD ls lp 0).size ≤ 8000) (by omega)
      unfold Unseal.unsealV at this
      rw [hk] at this
      exact this
    clear hk h4
    generalize readD ls lp 0 = h at *
    generalize seenO ls lp = sn at *
    go_enter Tryz.func38, Tryz.ntmps38
    go_wp2_with fail
    rw [← hW0]
    clear hW0
    refine (K0.out _ (Below.refl _ _)).mono ?_
    rintro e u1 ⟨us, up, rfl, hb1⟩
    go_wp2_with fail
    refine (KU.out _).mono ?_
    rintro e u2 ⟨rfl, hb2⟩
    have HB2 : Hid _ := bT (bT HB0.out hb1) hb2
    clear hb1 hb2
    go_wp2_with fail
    go_quiet (fail)
    go_wp2_with fail
    refine bodyPost_ret (v := .tuple #[.int .i64 0, .int .i64 0, .int .i64 0, .int .i64 5]) (by simp [results, Tryz.results38, go_sem]) rfl ⟨?_, ?_⟩
    · rw [HE.out]
    · exact Sha.bel_drewN (bA HB2.out _) _
  · have KU : Hid (∀ W, Calls Tryz.prog 66 #[.string (readD ls lp 0)] W fun e w' => e = .returned (.agg #[.string ((readD ls lp 0).extract 0 ((readD ls lp 0).size - 4)), .int .i64 0, .int .i64 0]) ∧ Below W.heap.size W w') := fun W => by
      have := Unseal.specUnseal_in _ W (by omega : (readD ls lp 0).size ≤ 8000) (by omega)
      unfold Unseal.unsealV at this
      rw [hk] at this
      exact this
    have HN := nums_of h4 hk
    have hts : ((readD ls lp 0).extract 0 ((readD ls lp 0).size - 4)).size ≤ 64 := by simp; omega
    clear hk h4
    generalize readD ls lp 0 = h at *
    generalize h.extract 0 (h.size - 4) = t at *
    have G1 := fun W => GetNum.specGetNum_in t 0 W (by omega) (by omega)
    have G2 := fun W => GetNum.specGetNum_in t (GetNum.rd t 0).2.2 W (by omega) (by have := (num_bd t 0).2.2; omega)
    have G3 := fun W => GetNum.specGetNum_in t (GetNum.rd t (GetNum.rd t 0).2.2).2.2 W (by omega) (by have := (num_bd t (GetNum.rd t 0).2.2).2.2; omega)
    rw [numV] at G1 G2 G3
    have b1 := num_bd t 0
    have b2 := num_bd t (GetNum.rd t 0).2.2
    have b3 := num_bd t (GetNum.rd t (GetNum.rd t 0).2.2).2.2
    generalize GetNum.rd t (GetNum.rd t (GetNum.rd t 0).2.2).2.2 = r3 at *
    generalize GetNum.rd t (GetNum.rd t 0).2.2 = r2 at *
    generalize GetNum.rd t 0 = r1 at *
    generalize nOf r1 = n1 at *
    generalize nOf r2 = n2 at *
    generalize nOf r3 = n3 at *
    obtain ⟨c1, y1, q1⟩ := r1
    obtain ⟨c2, y2, q2⟩ := r2
    obtain ⟨c3, y3, q3⟩ := r3
    dsimp only at HN G1 G2 G3 b1 b2 b3
    have HG1 : Hid (∀ W, Calls Tryz.prog 67 #[.string t, .int .i64 0] W fun e w' => e = .returned (.agg #[.int .i64 n1, .int .i64 (q1 : Nat), .int .i64 (c1 : Nat)]) ∧ Below W.heap.size W w') := G1
    have HG2 : Hid (∀ W, Calls Tryz.prog 67 #[.string t, .int .i64 (q1 : Nat)] W fun e w' => e = .returned (.agg #[.int .i64 n2, .int .i64 (q2 : Nat), .int .i64 (c2 : Nat)]) ∧ Below W.heap.size W w') := G2
    have HG3 : Hid (∀ W, Calls Tryz.prog 67 #[.string t, .int .i64 (q2 : Nat)] W fun e w' => e = .returned (.agg #[.int .i64 n3, .int .i64 (q3 : Nat), .int .i64 (c3 : Nat)]) ∧ Below W.heap.size W w') := G3
    have KHD : Hid (∀ W, Calls Tryz.prog 45 #[.int .i64 n1, .int .i64 n2, .int .i64 n3] W fun e w' => e = .returned (.string (headB n1 n2 n3)) ∧ Below W.heap.size W w') := fun W => specHead_any n1 n2 n3 W b1.1 b1.2.1 b2.1 b2.2.1 b3.1 b3.2.1
    have HBAD : Hid (c1 ≠ 0 ∨ c2 ≠ 0 ∨ c3 ≠ 0 → seenO ls lp = (0, 0, 0, 3)) := HN.bad
    have HMORE : Hid (c1 = 0 → c2 = 0 → c3 = 0 → headB n1 n2 n3 ≠ h → seenO ls lp = (0, 0, 0, 3)) := HN.more
    have HOUT : Hid (c1 = 0 → c2 = 0 → c3 = 0 → ¬ (0 ≤ n1 ∧ (0 ≤ n2 ∧ n2 ≤ 1) ∧ (0 ≤ n3 ∧ n3 ≤ ((64 * halfN ls : Nat) : Int))) → seenO ls lp = (0, 0, 0, 3)) := HN.out
    have HGOOD : Hid (c1 = 0 → c2 = 0 → c3 = 0 → headB n1 n2 n3 = h → (0 ≤ n1 ∧ (0 ≤ n2 ∧ n2 ≤ 1) ∧ (0 ≤ n3 ∧ n3 ≤ ((64 * halfN ls : Nat) : Int))) → seenO ls lp = (n1, n2, n3, 0)) := HN.good
    clear G1 G2 G3 HN
    generalize headB n1 n2 n3 = hd at *
    generalize seenO ls lp = sn at *
    go_enter Tryz.func38, Tryz.ntmps38
    go_wp2_with fail
    rw [← hW0]
    clear hW0
    refine (K0.out _ (Below.refl _ _)).mono ?_
    rintro e u1 ⟨us, up, rfl, hb1⟩
    go_wp2_with fail
    refine (KU.out _).mono ?_
    rintro e u2 ⟨rfl, hb2⟩
    have hz2 := (bT hb1 hb2).size
    have N2 : Hid (Below W0.heap.size W0 (u2.alloc (.cells #[.string t, .int .i64 0, .int .i64 0] 102))) := bA (bT hb1 hb2) _
    have T2 : Hid (HasRow (u2.alloc (.cells #[.string t, .int .i64 0, .int .i64 0] 102)) u2.heap.size [.string t, .int .i64 0, .int .i64 0] 102) := Sha.row_new u2 _ _
    obtain ⟨W2, hW2⟩ : ∃ W2, W2 = u2.alloc (.cells #[.string t, .int .i64 0, .int .i64 0] 102) := ⟨_, rfl⟩
    have z2 : u2.heap.size < W2.heap.size := by rw [hW2]; simp
    rw [← hW2] at N2 T2
    clear hb1 hb2
    go_wp2_with fail
    rw [← hW2]
    clear hW2
    refine (HG1.out _).mono ?_
    rintro e u3 ⟨rfl, hb3⟩
    have N3 : Hid (Below W2.heap.size W2 (u3.alloc (.cells #[.int .i64 n1, .int .i64 (q1 : Nat), .int .i64 (c1 : Nat)] 105))) := bA hb3 _
    have T3 : Hid (BoxN (u3.alloc (.cells #[.int .i64 n1, .int .i64 (q1 : Nat), .int .i64 (c1 : Nat)] 105)) u3.heap.size n1 q1 c1) := Sha.row_new u3 _ _
    obtain ⟨W3, hW3⟩ : ∃ W3, W3 = u3.alloc (.cells #[.int .i64 n1, .int .i64 (q1 : Nat), .int .i64 (c1 : Nat)] 105) := ⟨_, rfl⟩
    have z3 : u3.heap.size < W3.heap.size := by rw [hW3]; simp
    rw [← hW3] at N3 T3
    have t0 : W3.cell? ⟨u2.heap.size, 0, none⟩ = some (.string t) := Mem.cell_of_row (Sha.row_below T2.out N3.out z2) 0
    rw [hW3] at t0
    clear hb3
    go_wp2_with fail
    rw [← hW3]
    clear hW3 t0
    refine (HG2.out _).mono ?_
    rintro e u4 ⟨rfl, hb4⟩
    have N4 : Hid (Below W3.heap.size W3 (u4.alloc (.cells #[.int .i64 n2, .int .i64 (q2 : Nat), .int .i64 (c2 : Nat)] 105))) := bA hb4 _
    have T4 : Hid (BoxN (u4.alloc (.cells #[.int .i64 n2, .int .i64 (q2 : Nat), .int .i64 (c2 : Nat)] 105)) u4.heap.size n2 q2 c2) := Sha.row_new u4 _ _
    obtain ⟨W4, hW4⟩ : ∃ W4, W4 = u4.alloc (.cells #[.int .i64 n2, .int .i64 (q2 : Nat), .int .i64 (c2 : Nat)] 105) := ⟨_, rfl⟩
    have z4 : u4.heap.size < W4.heap.size := by rw [hW4]; simp
    rw [← hW4] at N4 T4
    have N24 : Hid (Below W2.heap.size W2 W4) := bT N3.out N4.out
    have t0 : W4.cell? ⟨u2.heap.size, 0, none⟩ = some (.string t) := Mem.cell_of_row (Sha.row_below T2.out N24.out z2) 0
    rw [hW4] at t0
    clear hb4
    go_wp2_with fail
    rw [← hW4]
    clear hW4 t0
    refine (HG3.out _).mono ?_
    rintro e u5 ⟨rfl, hb5⟩
    have N5 : Hid (Below W4.heap.size W4 (u5.alloc (.cells #[.int .i64 n3, .int .i64 (q3 : Nat), .int .i64 (c3 : Nat)] 105))) := bA hb5 _
    have T5 : Hid (BoxN (u5.alloc (.cells #[.int .i64 n3, .int .i64 (q3 : Nat), .int .i64 (c3 : Nat)] 105)) u5.heap.size n3 q3 c3) := Sha.row_new u5 _ _
    obtain ⟨V, hV⟩ : ∃ V, V = u5.alloc (.cells #[.int .i64 n3, .int .i64 (q3 : Nat), .int .i64 (c3 : Nat)] 105) := ⟨_, rfl⟩
    have z5 : u5.heap.size < V.heap.size := by rw [hV]; simp
    rw [← hV] at N5 T5
    have N0V : Hid (Below W0.heap.size W0 V) := bT (bT N2.out N24.out) N5.out
    have N3V : Hid (Below W3.heap.size W3 V) := bT N4.out N5.out
    have HBV : Hid (Below w.heap.size w V) := bT HB0.out N0V.out
    have KC : Hid (∀ W, Below V.heap.size V W → W.cell? ⟨w.heap.size, 0, none⟩ = some vs ∧ W.cell? ⟨w.heap.size, 1, none⟩ = some vp ∧ W.cell? ⟨u3.heap.size, 0, none⟩ = some (.int .i64 n1) ∧ W.cell? ⟨u3.heap.size, 2, none⟩ = some (.int .i64 (c1 : Int)) ∧ W.cell? ⟨u4.heap.size, 0, none⟩ = some (.int .i64 n2) ∧ W.cell? ⟨u4.heap.size, 2, none⟩ = some (.int .i64 (c2 : Int)) ∧ W.cell? ⟨u5.heap.size, 0, none⟩ = some (.int .i64 n3) ∧ W.cell? ⟨u5.heap.size, 2, none⟩ = some (.int .i64 (c3 : Int))) := fun W hb => by
      have a := Box2.below HX0.out (bT N0V.out hb) HZ0.out
      have b := Sha.row_below T3.out (bT N3V.out hb) z3
      have c := Sha.row_below T4.out (bT N5.out hb) z4
      have d := Sha.row_below T5.out hb z5
      exact ⟨a.cells.1, a.cells.2.1, Mem.cell_of_row b 0, Mem.cell_of_row b 2, Mem.cell_of_row c 0, Mem.cell_of_row c 2, Mem.cell_of_row d 0, Mem.cell_of_row d 2⟩
    have K42 : Hid (∀ W, Below V.heap.size V W → Calls Tryz.prog 39 #[.agg #[vs, vp], .int .i64 0] W fun e w' => ∃ us up, e = .returned (outV us up h 0) ∧ Below W.heap.size W w') := fun W hb => K0.out W (bT N0V.out hb)
    have K19 : Hid (∀ W, Below V.heap.size V W → Calls Tryz.prog 43 #[.agg #[vs, vp]] W fun e w' => e = .returned (.int .i64 (halfN ls : Nat)) ∧ Below W.heap.size W w') := fun W hb => KHF.out W (bT N0V.out hb)
    clear hb5 N2 T2 N3 T3 N4 T4 N24 N5 T5 N0V N3V K0 KHF KU HG1 HG2 HG3 HX0 HZ0 HS HP
    go_wp2_with fail
    rw [← hV]
    clear hV
    generalize u3.heap.size = g7 at *
    generalize u4.heap.size = g8 at *
    generalize u5.heap.size = g9 at *
    generalize halfN ls = hn at *
    have NB : Hid (Below V.heap.size V V) := Below.refl _ _
    have kQ := KC.out _ NB.out
    by_cases e1 : c1 = 0
    rotate_left
    · have d1 : ((c1 : Int) != 0) = true := by simp; omega
      have HE : Hid _ := HBAD.out (.inl e1)
      have e1c : ¬ (c1 : Int) = 0 := by omega
      clear e1
      obtain ⟨kA, kB, kC1, kD, kE, kF, kG, kH⟩ := kQ
      go_wp2_with fail
      go_quiet (fail)
      go_wp2_with fail
      refine bodyPost_ret (v := .tuple #[.int .i64 0, .int .i64 0, .int .i64 0, .int .i64 3]) (by simp [results, Tryz.results38, go_sem]) rfl ⟨?_, ?_⟩
      · rw [HE.out]
      · exact bT HBV.out (Sha.bel_drewN NB.out _)
    have d1 : ((c1 : Int) != 0) = false := by simp [e1]
    by_cases e2 : c2 = 0
    rotate_left
    · have d2 : ((c2 : Int) != 0) = true := by simp; omega
      have HE : Hid _ := HBAD.out (.inr (.inl e2))
      obtain ⟨kA, kB, kC1, kD, kE, kF, kG, kH⟩ := kQ
      go_wp2_with fail
      go_quiet (fail)
      go_wp2_with fail
      refine bodyPost_ret (v := .tuple #[.int .i64 0, .int .i64 0, .int .i64 0, .int .i64 3]) (by simp [results, Tryz.results38, go_sem]) rfl ⟨?_, ?_⟩
      · rw [HE.out]
      · exact bT HBV.out (Sha.bel_drewN NB.out _)
    have d2 : ((c2 : Int) != 0) = false := by simp [e2]
    by_cases e3 : c3 = 0
    rotate_left
    · have d3 : ((c3 : Int) != 0) = true := by simp; omega
      have HE : Hid _ := HBAD.out (.inr (.inr e3))
      obtain ⟨kA, kB, kC1, kD, kE, kF, kG, kH⟩ := kQ
      go_wp2_with fail
      go_quiet (fail)
      go_wp2_with fail
      refine bodyPost_ret (v := .tuple #[.int .i64 0, .int .i64 0, .int .i64 0, .int .i64 3]) (by simp [results, Tryz.results38, go_sem]) rfl ⟨?_, ?_⟩
      · rw [HE.out]
      · exact bT HBV.out (Sha.bel_drewN NB.out _)
    have d3 : ((c3 : Int) != 0) = false := by simp [e3]
    have HC : Hid (c1 = 0 ∧ c2 = 0 ∧ c3 = 0) := ⟨e1, e2, e3⟩
    clear e1 e2 e3
    by_cases eh : hd = h
    rotate_left
    · have dh1 : ¬ hd.toList = h.toList := fun e => eh (Unseal.ba_ext (by rw [← Unseal.list_eq, ← Unseal.list_eq]; exact e))
      have dh2 : (hd.toList == h.toList) = false := by simp [dh1]
      have dh3 : (hd == h) = false := by rw [beq_toListBytes]; exact dh2
      have dh : (hd != h) = true := by simp [bne, dh3]
      have HE : Hid _ := HMORE.out HC.out.1 HC.out.2.1 HC.out.2.2 eh
      clear eh
      go_wp2_with fail
      go_region_held3 (fun W => W.cell? ⟨w.heap.size, 0, none⟩ = some vs ∧ W.cell? ⟨w.heap.size, 1, none⟩ = some vp ∧ W.cell? ⟨g7, 0, none⟩ = some (.int .i64 n1) ∧ W.cell? ⟨g7, 2, none⟩ = some (.int .i64 (c1 : Int)) ∧ W.cell? ⟨g8, 0, none⟩ = some (.int .i64 n2) ∧ W.cell? ⟨g8, 2, none⟩ = some (.int .i64 (c2 : Int)) ∧ W.cell? ⟨g9, 0, none⟩ = some (.int .i64 n3) ∧ W.cell? ⟨g9, 2, none⟩ = some (.int .i64 (c3 : Int)))
            (exact kQ)
            (first
              | (go_at_call 45; refine (KHD.out _).mono ?_; rintro e u ⟨rfl, hb⟩; have NB : Hid (Below V.heap.size V u) := bT (by repeat' (first | exact NB.out | apply bD)) hb; clear kQ; have kQ := KC.out _ NB.out; clear hb)
              | (go_at_call 39; refine (K42.out _ (by repeat' (first | exact NB.out | apply bD))).mono ?_; rintro e u ⟨us, up, rfl, hb⟩; have NB : Hid (Below V.heap.size V u) := bT (by repeat' (first | exact NB.out | apply bD)) hb; clear kQ; have kQ := KC.out _ NB.out; clear hb; simp only [CutCall.shut_cut] at *)
              | (go_at_call_of 65 (Value.int .i64 n2); refine (KI2.out _).mono ?_; rintro e u ⟨rfl, rfl⟩)
              | (go_at_call 43; refine (K19.out _ (by repeat' (first | exact NB.out | apply bD))).mono ?_; rintro e u ⟨rfl, hb⟩; have NB : Hid (Below V.heap.size V u) := bT (by repeat' (first | exact NB.out | apply bD)) hb; clear kQ; have kQ := KC.out _ NB.out; clear hb)
              | (go_at_call_of 65 (Value.int .i64 n3); refine (KI3.out _).mono ?_; rintro e u ⟨rfl, rfl⟩))
      unfold Hid
      refine wpAnyH_take (i := 23) (v := ?_) rfl (by kernel_rfl) (by kernel_rfl) (by kernel_rfl) (fun _ _ _ h => h) (Or.inl ⟨by rfl, ?_⟩) kQ ?_
      rotate_left
      · (intro w9 hS9; (try dsimp only at hS9); go_simp; (try with_reducible rfl))
      simp only [List.getElem_toArray, List.getElem_cons_succ, List.getElem_cons_zero, Act.put, List.setIfInBounds_toArray, List.set_cons_zero, List.set_cons_succ]
      refine wpAnyH_take (i := 24) (v := ?_) rfl (by kernel_rfl) (by kernel_rfl) (by kernel_rfl) (fun _ _ _ h => h) (Or.inl ⟨by rfl, ?_⟩) kQ ?_
      rotate_left
      · (intro w9 hS9; (try dsimp only at hS9); go_simp; (try with_reducible rfl))
      simp only [List.getElem_toArray, List.getElem_cons_succ, List.getElem_cons_zero, Act.put, List.setIfInBounds_toArray, List.set_cons_zero, List.set_cons_succ]
      refine wpAnyH_take (i := 25) (v := ?_) rfl (by kernel_rfl) (by kernel_rfl) (by kernel_rfl) (fun _ _ _ h => h) (Or.inl ⟨by rfl, ?_⟩) kQ ?_
      rotate_left
      · (intro w9 hS9; (try dsimp only at hS9); go_simp; (try with_reducible rfl))
      simp only [List.getElem_toArray, List.getElem_cons_succ, List.getElem_cons_zero, Act.put, List.setIfInBounds_toArray, List.set_cons_zero, List.set_cons_succ]
      refine wpAnyH_take (i := 26) (v := ?_) rfl (by kernel_rfl) (by kernel_rfl) (by kernel_rfl) (fun _ _ _ h => h) (Or.inl ⟨by rfl, ?_⟩) kQ ?_
      rotate_left
      · (intro w9 hS9; (try dsimp only at hS9); go_simp; (try with_reducible rfl))
      simp only [List.getElem_toArray, List.getElem_cons_succ, List.getElem_cons_zero, Act.put, List.setIfInBounds_toArray, List.set_cons_zero, List.set_cons_succ]
      refine wpAnyH_take (i := 27) (v := _) rfl (by kernel_rfl) (by kernel_rfl) (by kernel_rfl) (fun _ _ _ h => h) (Or.inr ⟨by rfl, rfl⟩) kQ ?_
      simp only [List.getElem_toArray, List.getElem_cons_succ, List.getElem_cons_zero, Act.put, List.setIfInBounds_toArray, List.set_cons_zero, List.set_cons_succ]
      refine wpAnyH_take (i := 28) (v := _) rfl (by kernel_rfl) (by kernel_rfl) (by kernel_rfl) (fun _ _ _ h => h) (Or.inr ⟨by rfl, rfl⟩) kQ ?_
      simp only [List.getElem_toArray, List.getElem_cons_succ, List.getElem_cons_zero, Act.put, List.setIfInBounds_toArray, List.set_cons_zero, List.set_cons_succ]
      refine wpAnyH_take (i := 29) (v := _) rfl (by kernel_rfl) (by kernel_rfl) (by kernel_rfl) (fun _ _ _ h => h) (Or.inr ⟨by rfl, rfl⟩) kQ ?_
      simp only [List.getElem_toArray, List.getElem_cons_succ, List.getElem_cons_zero, Act.put, List.setIfInBounds_toArray, List.set_cons_zero, List.set_cons_succ]
      refine wpAnyH_take (i := 30) (v := ?_) rfl (by kernel_rfl) (by kernel_rfl) (by kernel_rfl) (fun _ _ _ h => h) (Or.inl ⟨by rfl, ?_⟩) kQ ?_
      rotate_left
      · (intro w9 hS9; (try dsimp only at hS9); go_simp; (try with_reducible rfl))
      simp only [List.getElem_toArray, List.getElem_cons_succ, List.getElem_cons_zero, Act.put, List.setIfInBounds_toArray, List.set_cons_zero, List.set_cons_succ]
      refine wpAnyH_take (i := 31) (v := ?_) rfl (by kernel_rfl) (by kernel_rfl) (by kernel_rfl) (fun _ _ _ h => h) (Or.inl ⟨by rfl, ?_⟩) kQ ?_
      rotate_left
      · (intro w9 hS9; (try dsimp only at hS9); go_simp; (try with_reducible rfl))
      simp only [List.getElem_toArray, List.getElem_cons_succ, List.getElem_cons_zero, Act.put, List.setIfInBounds_toArray, List.set_cons_zero, List.set_cons_succ]
      refine wpAnyH_take (i := 32) (v := _) rfl (by kernel_rfl) (by kernel_rfl) (by kernel_rfl) (fun _ _ _ h => h) (Or.inr ⟨by rfl, rfl⟩) kQ ?_
      simp only [List.getElem_toArray, List.getElem_cons_succ, List.getElem_cons_zero, Act.put, List.setIfInBounds_toArray, List.set_cons_zero, List.set_cons_succ]
      refine wpAnyH_take (i := 33) (v := _) rfl (by kernel_rfl) (by kernel_rfl) (by kernel_rfl) (fun _ _ _ h => h) (Or.inr ⟨by rfl, rfl⟩) kQ ?_
      simp only [List.getElem_toArray, List.getElem_cons_succ, List.getElem_cons_zero, Act.put, List.setIfInBounds_toArray, List.set_cons_zero, List.set_cons_succ]
      first
        | (refine wpAnyH_take (i := 34) (v := _) rfl (by kernel_rfl) (by kernel_rfl) (by kernel_rfl) (fun _ _ _ h => h) (Or.inr ⟨by rfl, rfl⟩) kQ ?_; simp only [List.getElem_toArray, List.getElem_cons_succ, List.getElem_cons_zero, Act.put, List.setIfInBounds_toArray, List.set_cons_zero, List.set_cons_succ])
        | (refine wpAnyH_ready (rs := [34]) (by kernel_rfl) (by simp) ?_; refine AllReadyH.cons rfl (fun K hK => ?_) AllReadyH.nil; rw [if_neg (by decide)]; refine hK.out _ _ kQ (fun _ => ?_); clear hK K; simp only [List.getElem_toArray, List.getElem_cons_succ, List.getElem_cons_zero, Act.put, List.setIfInBounds_toArray, List.set_cons_zero, List.set_cons_succ])
      refine wpAnyH_take (i := 35) (v := _) rfl (by kernel_rfl) (by kernel_rfl) (by kernel_rfl) (fun _ _ _ h => h) (Or.inr ⟨by rfl, rfl⟩) kQ ?_
      simp only [List.getElem_toArray, List.getElem_cons_succ, List.getElem_cons_zero, Act.put, List.setIfInBounds_toArray, List.set_cons_zero, List.set_cons_succ]
      refine wpAnyH_take (i := 36) (v := ?_) rfl (by kernel_rfl) (by kernel_rfl) (by kernel_rfl) (fun _ _ _ h => h) (Or.inl ⟨by rfl, ?_⟩) kQ ?_
      rotate_left
      · (intro w9 hS9; (try dsimp only at hS9); go_simp; (try with_reducible rfl))
      simp only [List.getElem_toArray, List.getElem_cons_succ, List.getElem_cons_zero, Act.put, List.setIfInBounds_toArray, List.set_cons_zero, List.set_cons_succ]
      refine wpAnyH_take (i := 37) (v := ?_) rfl (by kernel_rfl) (by kernel_rfl) (by kernel_rfl) (fun _ _ _ h => h) (Or.inl ⟨by rfl, ?_⟩) kQ ?_
      rotate_left
      · (intro w9 hS9; (try dsimp only at hS9); go_simp; (try with_reducible rfl))
      simp only [List.getElem_toArray, List.getElem_cons_succ, List.getElem_cons_zero, Act.put, List.setIfInBounds_toArray, List.set_cons_zero, List.set_cons_succ]
      refine wpAnyH_take (i := 38) (v := _) rfl (by kernel_rfl) (by kernel_rfl) (by kernel_rfl) (fun _ _ _ h => h) (Or.inr ⟨by rfl, rfl⟩) kQ ?_
      simp only [List.getElem_toArray, List.getElem_cons_succ, List.getElem_cons_zero, Act.put, List.setIfInBounds_toArray, List.set_cons_zero, List.set_cons_succ]
      refine wpAnyH_take (i := 39) (v := _) rfl (by kernel_rfl) (by kernel_rfl) (by kernel_rfl) (fun _ _ _ h => h) (Or.inr ⟨by rfl, rfl⟩) kQ ?_
      simp only [List.getElem_toArray, List.getElem_cons_succ, List.getElem_cons_zero, Act.put, List.setIfInBounds_toArray, List.set_cons_zero, List.set_cons_succ]
      refine wpAnyH_take (i := 40) (v := _) rfl (by kernel_rfl) (by kernel_rfl) (by kernel_rfl) (fun _ _ _ h => h) (Or.inr ⟨by rfl, rfl⟩) kQ ?_
      simp only [List.getElem_toArray, List.getElem_cons_succ, List.getElem_cons_zero, Act.put, List.setIfInBounds_toArray, List.set_cons_zero, List.set_cons_succ]
      first
        | (refine wpAnyH_take (i := 41) (v := _) rfl (by kernel_rfl) (by kernel_rfl) (by kernel_rfl) (fun _ _ _ h => h) (Or.inr ⟨by rfl, rfl⟩) kQ ?_; simp only [List.getElem_toArray, List.getElem_cons_succ, List.getElem_cons_zero, Act.put, List.setIfInBounds_toArray, List.set_cons_zero, List.set_cons_succ])
        | (refine wpAnyH_ready (rs := [41]) (by kernel_rfl) (by simp) ?_; refine AllReadyH.cons rfl (fun K hK => ?_) AllReadyH.nil; rw [if_neg (by decide)]; refine hK.out _ _ kQ (fun _ => ?_); clear hK K; simp only [List.getElem_toArray, List.getElem_cons_succ, List.getElem_cons_zero, Act.put, List.setIfInBounds_toArray, List.set_cons_zero, List.set_cons_succ])
      refine wpAnyH_take (i := 42) (v := _) rfl (by kernel_rfl) (by kernel_rfl) (by kernel_rfl) (fun _ _ _ h => h) (Or.inr ⟨by rfl, rfl⟩) kQ ?_
      simp only [List.getElem_toArray, List.getElem_cons_succ, List.getElem_cons_zero, Act.put, List.setIfInBounds_toArray, List.set_cons_zero, List.set_cons_succ]
      first
        | (refine wpAnyH_take (i := 43) (v := _) rfl (by kernel_rfl) (by kernel_rfl) (by kernel_rfl) (fun _ _ _ h => h) (Or.inr ⟨by rfl, rfl⟩) kQ ?_; simp only [List.getElem_toArray, List.getElem_cons_succ, List.getElem_cons_zero, Act.put, List.setIfInBounds_toArray, List.set_cons_zero, List.set_cons_succ])
        | (refine wpAnyH_ready (rs := [43]) (by kernel_rfl) (by simp) ?_; refine AllReadyH.cons rfl (fun K hK => ?_) AllReadyH.nil; rw [if_neg (by decide)]; refine hK.out _ _ kQ (fun _ => ?_); clear hK K; simp only [List.getElem_toArray, List.getElem_cons_succ, List.getElem_cons_zero, Act.put, List.setIfInBounds_toArray, List.set_cons_zero, List.set_cons_succ])
      refine wpAnyH_take (i := 44) (v := _) rfl (by kernel_rfl) (by kernel_rfl) (by kernel_rfl) (fun _ _ _ h => h) (Or.inr ⟨by rfl, rfl⟩) kQ ?_
      simp only [List.getElem_toArray, List.getElem_cons_succ, List.getElem_cons_zero, Act.put, List.setIfInBounds_toArray, List.set_cons_zero, List.set_cons_succ]
      refine wpAnyH_take (i := 45) (v := ?_) rfl (by kernel_rfl) (by kernel_rfl) (by kernel_rfl) (fun _ _ _ h => h) (Or.inl ⟨by rfl, ?_⟩) kQ ?_
      rotate_left
      · (intro w9 hS9; (try dsimp only at hS9); go_simp; (try with_reducible rfl))
      simp only [List.getElem_toArray, List.getElem_cons_succ, List.getElem_cons_zero, Act.put, List.setIfInBounds_toArray, List.set_cons_zero, List.set_cons_succ]
      refine wpAnyH_done (by kernel_rfl) ?_ _
      refine NoPanic.normal ?_
      go_wp2_with fail
      refine bodyPost_ret (v := .tuple #[.int .i64 0, .int .i64 0, .int .i64 0, .int .i64 3]) (by simp [results, Tryz.results38, go_sem]) rfl ⟨?_, ?_⟩
      · rw [HE.out]
      · exact bT HBV.out (by repeat' (first | exact NB.out | apply bD))
    subst eh
    have dh : (hd != hd) = false := by simp [bne, beqB]
    have dh3 : (hd == hd) = true := beqB hd
    by_cases f1 : n1 < 0
    · have df : decide (n1 < 0) = true := by simp [f1]
      have HE : Hid _ := HOUT.out HC.out.1 HC.out.2.1 HC.out.2.2 (by omega)
      go_wp2_with fail
      go_region_held3 (fun W => W.cell? ⟨w.heap.size, 0, none⟩ = some vs ∧ W.cell? ⟨w.heap.size, 1, none⟩ = some vp ∧ W.cell? ⟨g7, 0, none⟩ = some (.int .i64 n1) ∧ W.cell? ⟨g7, 2, none⟩ = some (.int .i64 (c1 : Int)) ∧ W.cell? ⟨g8, 0, none⟩ = some (.int .i64 n2) ∧ W.cell? ⟨g8, 2, none⟩ = some (.int .i64 (c2 : Int)) ∧ W.cell? ⟨g9, 0, none⟩ = some (.int .i64 n3) ∧ W.cell? ⟨g9, 2, none⟩ = some (.int .i64 (c3 : Int)))
            (exact kQ)
            (first
              | (go_at_call 45; refine (KHD.out _).mono ?_; rintro e u ⟨rfl, hb⟩; have NB : Hid (Below V.heap.size V u) := bT (by repeat' (first | exact NB.out | apply bD)) hb; clear kQ; have kQ := KC.out _ NB.out; clear hb)
              | (go_at_call 39; refine (K42.out _ (by repeat' (first | exact NB.out | apply bD))).mono ?_; rintro e u ⟨us, up, rfl, hb⟩; have NB : Hid (Below V.heap.size V u) := bT (by repeat' (first | exact NB.out | apply bD)) hb; clear kQ; have kQ := KC.out _ NB.out; clear hb; simp only [CutCall.shut_cut] at *)
              | (go_at_call_of 65 (Value.int .i64 n2); refine (KI2.out _).mono ?_; rintro e u ⟨rfl, rfl⟩)
              | (go_at_call 43; refine (K19.out _ (by repeat' (first | exact NB.out | apply bD))).mono ?_; rintro e u ⟨rfl, hb⟩; have NB : Hid (Below V.heap.size V u) := bT (by repeat' (first | exact NB.out | apply bD)) hb; clear kQ; have kQ := KC.out _ NB.out; clear hb)
              | (go_at_call_of 65 (Value.int .i64 n3); refine (KI3.out _).mono ?_; rintro e u ⟨rfl, rfl⟩))
      unfold Hid
      refine wpAnyH_take (i := 23) (v := ?_) rfl (by kernel_rfl) (by kernel_rfl) (by kernel_rfl) (fun _ _ _ h => h) (Or.inl ⟨by rfl, ?_⟩) kQ ?_
      rotate_left
      · (intro w9 hS9; (try dsimp only at hS9); go_simp; (try with_reducible rfl))
      simp only [List.getElem_toArray, List.getElem_cons_succ, List.getElem_cons_zero, Act.put, List.setIfInBounds_toArray, List.set_cons_zero, List.set_cons_succ]
      refine wpAnyH_take (i := 24) (v := ?_) rfl (by kernel_rfl) (by kernel_rfl) (by kernel_rfl) (fun _ _ _ h => h) (Or.inl ⟨by rfl, ?_⟩) kQ ?_
      rotate_left
      · (intro w9 hS9; (try dsimp only at hS9); go_simp; (try with_reducible rfl))
      simp only [List.getElem_toArray, List.getElem_cons_succ, List.getElem_cons_zero, Act.put, List.setIfInBounds_toArray, List.set_cons_zero, List.set_cons_succ]
      refine wpAnyH_take (i := 25) (v := ?_) rfl (by kernel_rfl) (by kernel_rfl) (by kernel_rfl) (fun _ _ _ h => h) (Or.inl ⟨by rfl, ?_⟩) kQ ?_
      rotate_left
      · (intro w9 hS9; (try dsimp only at hS9); go_simp; (try with_reducible rfl))
      simp only [List.getElem_toArray, List.getElem_cons_succ, List.getElem_cons_zero, Act.put, List.setIfInBounds_toArray, List.set_cons_zero, List.set_cons_succ]
      refine wpAnyH_take (i := 26) (v := ?_) rfl (by kernel_rfl) (by kernel_rfl) (by kernel_rfl) (fun _ _ _ h => h) (Or.inl ⟨by rfl, ?_⟩) kQ ?_
      rotate_left
      · (intro w9 hS9; (try dsimp only at hS9); go_simp; (try with_reducible rfl))
      simp only [List.getElem_toArray, List.getElem_cons_succ, List.getElem_cons_zero, Act.put, List.setIfInBounds_toArray, List.set_cons_zero, List.set_cons_succ]
      refine wpAnyH_take (i := 27) (v := ?_) rfl (by kernel_rfl) (by kernel_rfl) (by kernel_rfl) (fun _ _ _ h => h) (Or.inl ⟨by rfl, ?_⟩) kQ ?_
      rotate_left
      · (intro w9 hS9; (try dsimp only at hS9); go_simp; (try with_reducible rfl))
      simp only [List.getElem_toArray, List.getElem_cons_succ, List.getElem_cons_zero, Act.put, List.setIfInBounds_toArray, List.set_cons_zero, List.set_cons_succ]
      refine wpAnyH_take (i := 28) (v := ?_) rfl (by kernel_rfl) (by kernel_rfl) (by kernel_rfl) (fun _ _ _ h => h) (Or.inl ⟨by rfl, ?_⟩) kQ ?_
      rotate_left
      · (intro w9 hS9; (try dsimp only at hS9); go_simp; (try with_reducible rfl))
      simp only [List.getElem_toArray, List.getElem_cons_succ, List.getElem_cons_zero, Act.put, List.setIfInBounds_toArray, List.set_cons_zero, List.set_cons_succ]
      refine wpAnyH_take (i := 29) (v := ?_) rfl (by kernel_rfl) (by kernel_rfl) (by kernel_rfl) (fun _ _ _ h => h) (Or.inl ⟨by rfl, ?_⟩) kQ ?_
      rotate_left
      · (intro w9 hS9; (try dsimp only at hS9); go_simp; (try with_reducible rfl))
      simp only [List.getElem_toArray, List.getElem_cons_succ, List.getElem_cons_zero, Act.put, List.setIfInBounds_toArray, List.set_cons_zero, List.set_cons_succ]
      refine wpAnyH_take (i := 30) (v := ?_) rfl (by kernel_rfl) (by kernel_rfl) (by kernel_rfl) (fun _ _ _ h => h) (Or.inl ⟨by rfl, ?_⟩) kQ ?_
      rotate_left
      · (intro w9 hS9; (try dsimp only at hS9); go_simp; (try with_reducible rfl))
      simp only [List.getElem_toArray, List.getElem_cons_succ, List.getElem_cons_zero, Act.put, List.setIfInBounds_toArray, List.set_cons_zero, List.set_cons_succ]
      refine wpAnyH_take (i := 31) (v := ?_) rfl (by kernel_rfl) (by kernel_rfl) (by kernel_rfl) (fun _ _ _ h => h) (Or.inl ⟨by rfl, ?_⟩) kQ ?_
      rotate_left
      · (intro w9 hS9; (try dsimp only at hS9); go_simp; (try with_reducible rfl))
      simp only [List.getElem_toArray, List.getElem_cons_succ, List.getElem_cons_zero, Act.put, List.setIfInBounds_toArray, List.set_cons_zero, List.set_cons_succ]
      refine wpAnyH_take (i := 32) (v := _) rfl (by kernel_rfl) (by kernel_rfl) (by kernel_rfl) (fun _ _ _ h => h) (Or.inr ⟨by rfl, rfl⟩) kQ ?_
      simp only [List.getElem_toArray, List.getElem_cons_succ, List.getElem_cons_zero, Act.put, List.setIfInBounds_toArray, List.set_cons_zero, List.set_cons_succ]
      refine wpAnyH_take (i := 33) (v := _) rfl (by kernel_rfl) (by kernel_rfl) (by kernel_rfl) (fun _ _ _ h => h) (Or.inr ⟨by rfl, rfl⟩) kQ ?_
      simp only [List.getElem_toArray, List.getElem_cons_succ, List.getElem_cons_zero, Act.put, List.setIfInBounds_toArray, List.set_cons_zero, List.set_cons_succ]
      first
        | (refine wpAnyH_take (i := 34) (v := _) rfl (by kernel_rfl) (by kernel_rfl) (by kernel_rfl) (fun _ _ _ h => h) (Or.inr ⟨by rfl, rfl⟩) kQ ?_; simp only [List.getElem_toArray, List.getElem_cons_succ, List.getElem_cons_zero, Act.put, List.setIfInBounds_toArray, List.set_cons_zero, List.set_cons_succ])
        | (refine wpAnyH_ready (rs := [34]) (by kernel_rfl) (by simp) ?_; refine AllReadyH.cons rfl (fun K hK => ?_) AllReadyH.nil; rw [if_neg (by decide)]; refine hK.out _ _ kQ (fun _ => ?_); clear hK K; simp only [List.getElem_toArray, List.getElem_cons_succ, List.getElem_cons_zero, Act.put, List.setIfInBounds_toArray, List.set_cons_zero, List.set_cons_succ])
      refine wpAnyH_take (i := 35) (v := _) rfl (by kernel_rfl) (by kernel_rfl) (by kernel_rfl) (fun _ _ _ h => h) (Or.inr ⟨by rfl, rfl⟩) kQ ?_
      simp only [List.getElem_toArray, List.getElem_cons_succ, List.getElem_cons_zero, Act.put, List.setIfInBounds_toArray, List.set_cons_zero, List.set_cons_succ]
      refine wpAnyH_take (i := 36) (v := ?_) rfl (by kernel_rfl) (by kernel_rfl) (by kernel_rfl) (fun _ _ _ h => h) (Or.inl ⟨by rfl, ?_⟩) kQ ?_
      rotate_left
      · (intro w9 hS9; (try dsimp only at hS9); go_simp; (try with_reducible rfl))
      simp only [List.getElem_toArray, List.getElem_cons_succ, List.getElem_cons_zero, Act.put, List.setIfInBounds_toArray, List.set_cons_zero, List.set_cons_succ]
      refine wpAnyH_take (i := 37) (v := ?_) rfl (by kernel_rfl) (by kernel_rfl) (by kernel_rfl) (fun _ _ _ h => h) (Or.inl ⟨by rfl, ?_⟩) kQ ?_
      rotate_left
      · (intro w9 hS9; (try dsimp only at hS9); go_simp; (try with_reducible rfl))
      simp only [List.getElem_toArray, List.getElem_cons_succ, List.getElem_cons_zero, Act.put, List.setIfInBounds_toArray, List.set_cons_zero, List.set_cons_succ]
      refine wpAnyH_take (i := 38) (v := _) rfl (by kernel_rfl) (by kernel_rfl) (by kernel_rfl) (fun _ _ _ h => h) (Or.inr ⟨by rfl, rfl⟩) kQ ?_
      simp only [List.getElem_toArray, List.getElem_cons_succ, List.getElem_cons_zero, Act.put, List.setIfInBounds_toArray, List.set_cons_zero, List.set_cons_succ]
      refine wpAnyH_take (i := 39) (v := _) rfl (by kernel_rfl) (by kernel_rfl) (by kernel_rfl) (fun _ _ _ h => h) (Or.inr ⟨by rfl, rfl⟩) kQ ?_
      simp only [List.getElem_toArray, List.getElem_cons_succ, List.getElem_cons_zero, Act.put, List.setIfInBounds_toArray, List.set_cons_zero, List.set_cons_succ]
      refine wpAnyH_take (i := 40) (v := _) rfl (by kernel_rfl) (by kernel_rfl) (by kernel_rfl) (fun _ _ _ h => h) (Or.inr ⟨by rfl, rfl⟩) kQ ?_
      simp only [List.getElem_toArray, List.getElem_cons_succ, List.getElem_cons_zero, Act.put, List.setIfInBounds_toArray, List.set_cons_zero, List.set_cons_succ]
      first
        | (refine wpAnyH_take (i := 41) (v := _) rfl (by kernel_rfl) (by kernel_rfl) (by kernel_rfl) (fun _ _ _ h => h) (Or.inr ⟨by rfl, rfl⟩) kQ ?_; simp only [List.getElem_toArray, List.getElem_cons_succ, List.getElem_cons_zero, Act.put, List.setIfInBounds_toArray, List.set_cons_zero, List.set_cons_succ])
        | (refine wpAnyH_ready (rs := [41]) (by kernel_rfl) (by simp) ?_; refine AllReadyH.cons rfl (fun K hK => ?_) AllReadyH.nil; rw [if_neg (by decide)]; refine hK.out _ _ kQ (fun _ => ?_); clear hK K; simp only [List.getElem_toArray, List.getElem_cons_succ, List.getElem_cons_zero, Act.put, List.setIfInBounds_toArray, List.set_cons_zero, List.set_cons_succ])
      refine wpAnyH_take (i := 42) (v := _) rfl (by kernel_rfl) (by kernel_rfl) (by kernel_rfl) (fun _ _ _ h => h) (Or.inr ⟨by rfl, rfl⟩) kQ ?_
      simp only [List.getElem_toArray, List.getElem_cons_succ, List.getElem_cons_zero, Act.put, List.setIfInBounds_toArray, List.set_cons_zero, List.set_cons_succ]
      first
        | (refine wpAnyH_take (i := 43) (v := _) rfl (by kernel_rfl) (by kernel_rfl) (by kernel_rfl) (fun _ _ _ h => h) (Or.inr ⟨by rfl, rfl⟩) kQ ?_; simp only [List.getElem_toArray, List.getElem_cons_succ, List.getElem_cons_zero, Act.put, List.setIfInBounds_toArray, List.set_cons_zero, List.set_cons_succ])
        | (refine wpAnyH_ready (rs := [43]) (by kernel_rfl) (by simp) ?_; refine AllReadyH.cons rfl (fun K hK => ?_) AllReadyH.nil; rw [if_neg (by decide)]; refine hK.out _ _ kQ (fun _ => ?_); clear hK K; simp only [List.getElem_toArray, List.getElem_cons_succ, List.getElem_cons_zero, Act.put, List.setIfInBounds_toArray, List.set_cons_zero, List.set_cons_succ])
      refine wpAnyH_take (i := 44) (v := _) rfl (by kernel_rfl) (by kernel_rfl) (by kernel_rfl) (fun _ _ _ h => h) (Or.inr ⟨by rfl, rfl⟩) kQ ?_
      simp only [List.getElem_toArray, List.getElem_cons_succ, List.getElem_cons_zero, Act.put, List.setIfInBounds_toArray, List.set_cons_zero, List.set_cons_succ]
      refine wpAnyH_take (i := 45) (v := ?_) rfl (by kernel_rfl) (by kernel_rfl) (by kernel_rfl) (fun _ _ _ h => h) (Or.inl ⟨by rfl, ?_⟩) kQ ?_
      rotate_left
      · (intro w9 hS9; (try dsimp only at hS9); go_simp; (try with_reducible rfl))
      simp only [List.getElem_toArray, List.getElem_cons_succ, List.getElem_cons_zero, Act.put, List.setIfInBounds_toArray, List.set_cons_zero, List.set_cons_succ]
      refine wpAnyH_done (by kernel_rfl) ?_ _
      refine NoPanic.normal ?_
      go_wp2_with fail
      refine bodyPost_ret (v := .tuple #[.int .i64 0, .int .i64 0, .int .i64 0, .int .i64 3]) (by simp [results, Tryz.results38, go_sem]) rfl ⟨?_, ?_⟩
      · rw [HE.out]
      · exact bT HBV.out (by repeat' (first | exact NB.out | apply bD))
    have df : decide (n1 < 0) = false := by simp; omega
    by_cases f2 : 0 ≤ n2 ∧ n2 ≤ 1
    rotate_left
    · have KI2 : Hid (∀ W, Calls Tryz.prog 65 #[.int .i64 n2, .int .i64 0, .int .i64 1] W fun e w' => e = .returned (.bool false) ∧ W = w') := fun W => specIs_any n2 0 1 false W (by simp; omega)
      have HE : Hid _ := HOUT.out HC.out.1 HC.out.2.1 HC.out.2.2 (by omega)
      go_wp2_with fail
      go_region_held3 (fun W => W.cell? ⟨w.heap.size, 0, none⟩ = some vs ∧ W.cell? ⟨w.heap.size, 1, none⟩ = some vp ∧ W.cell? ⟨g7, 0, none⟩ = some (.int .i64 n1) ∧ W.cell? ⟨g7, 2, none⟩ = some (.int .i64 (c1 : Int)) ∧ W.cell? ⟨g8, 0, none⟩ = some (.int .i64 n2) ∧ W.cell? ⟨g8, 2, none⟩ = some (.int .i64 (c2 : Int)) ∧ W.cell? ⟨g9, 0, none⟩ = some (.int .i64 n3) ∧ W.cell? ⟨g9, 2, none⟩ = some (.int .i64 (c3 : Int)))
            (exact kQ)
            (first
              | (go_at_call 45; refine (KHD.out _).mono ?_; rintro e u ⟨rfl, hb⟩; have NB : Hid (Below V.heap.size V u) := bT (by repeat' (first | exact NB.out | apply bD)) hb; clear kQ; have kQ := KC.out _ NB.out; clear hb)
              | (go_at_call 39; refine (K42.out _ (by repeat' (first | exact NB.out | apply bD))).mono ?_; rintro e u ⟨us, up, rfl, hb⟩; have NB : Hid (Below V.heap.size V u) := bT (by repeat' (first | exact NB.out | apply bD)) hb; clear kQ; have kQ := KC.out _ NB.out; clear hb)
              | (go_at_call_of 65 (Value.int .i64 n2); refine (KI2.out _).mono ?_; rintro e u ⟨rfl, rfl⟩; simp only [CutCall.shut_cut] at *)
              | (go_at_call 43; refine (K19.out _ (by repeat' (first | exact NB.out | apply bD))).mono ?_; rintro e u ⟨rfl, hb⟩; have NB : Hid (Below V.heap.size V u) := bT (by repeat' (first | exact NB.out | apply bD)) hb; clear kQ; have kQ := KC.out _ NB.out; clear hb)
              | (go_at_call_of 65 (Value.int .i64 n3); refine (KI3.out _).mono ?_; rintro e u ⟨rfl, rfl⟩))
      unfold Hid
      refine wpAnyH_take (i := 35) (v := ?_) rfl (by kernel_rfl) (by kernel_rfl) (by kernel_rfl) (fun _ _ _ h => h) (Or.inl ⟨by rfl, ?_⟩) kQ ?_
      rotate_left
      · (intro w9 hS9; (try dsimp only at hS9); go_simp; (try with_reducible rfl))
      simp only [List.getElem_toArray, List.getElem_cons_succ, List.getElem_cons_zero, Act.put, List.setIfInBounds_toArray, List.set_cons_zero, List.set_cons_succ]
      refine wpAnyH_take (i := 36) (v := ?_) rfl (by kernel_rfl) (by kernel_rfl) (by kernel_rfl) (fun _ _ _ h => h) (Or.inl ⟨by rfl, ?_⟩) kQ ?_
      rotate_left
      · (intro w9 hS9; (try dsimp only at hS9); go_simp; (try with_reducible rfl))
      simp only [List.getElem_toArray, List.getElem_cons_succ, List.getElem_cons_zero, Act.put, List.setIfInBounds_toArray, List.set_cons_zero, List.set_cons_succ]
      refine wpAnyH_take (i := 37) (v := ?_) rfl (by kernel_rfl) (by kernel_rfl) (by kernel_rfl) (fun _ _ _ h => h) (Or.inl ⟨by rfl, ?_⟩) kQ ?_
      rotate_left
      · (intro w9 hS9; (try dsimp only at hS9); go_simp; (try with_reducible rfl))
      simp only [List.getElem_toArray, List.getElem_cons_succ, List.getElem_cons_zero, Act.put, List.setIfInBounds_toArray, List.set_cons_zero, List.set_cons_succ]
      refine wpAnyH_take (i := 38) (v := _) rfl (by kernel_rfl) (by kernel_rfl) (by kernel_rfl) (fun _ _ _ h => h) (Or.inr ⟨by rfl, rfl⟩) kQ ?_
      simp only [List.getElem_toArray, List.getElem_cons_succ, List.getElem_cons_zero, Act.put, List.setIfInBounds_toArray, List.set_cons_zero, List.set_cons_succ]
      refine wpAnyH_take (i := 39) (v := _) rfl (by kernel_rfl) (by kernel_rfl) (by kernel_rfl) (fun _ _ _ h => h) (Or.inr ⟨by rfl, rfl⟩) kQ ?_
      simp only [List.getElem_toArray, List.getElem_cons_succ, List.getElem_cons_zero, Act.put, List.setIfInBounds_toArray, List.set_cons_zero, List.set_cons_succ]
      refine wpAnyH_take (i := 40) (v := _) rfl (by kernel_rfl) (by kernel_rfl) (by kernel_rfl) (fun _ _ _ h => h) (Or.inr ⟨by rfl, rfl⟩) kQ ?_
      simp only [List.getElem_toArray, List.getElem_cons_succ, List.getElem_cons_zero, Act.put, List.setIfInBounds_toArray, List.set_cons_zero, List.set_cons_succ]
      first
        | (refine wpAnyH_take (i := 41) (v := _) rfl (by kernel_rfl) (by kernel_rfl) (by kernel_rfl) (fun _ _ _ h => h) (Or.inr ⟨by rfl, rfl⟩) kQ ?_; simp only [List.getElem_toArray, List.getElem_cons_succ, List.getElem_cons_zero, Act.put, List.setIfInBounds_toArray, List.set_cons_zero, List.set_cons_succ])
        | (refine wpAnyH_ready (rs := [41]) (by kernel_rfl) (by simp) ?_; refine AllReadyH.cons rfl (fun K hK => ?_) AllReadyH.nil; rw [if_neg (by decide)]; refine hK.out _ _ kQ (fun _ => ?_); clear hK K; simp only [List.getElem_toArray, List.getElem_cons_succ, List.getElem_cons_zero, Act.put, List.setIfInBounds_toArray, List.set_cons_zero, List.set_cons_succ])
      refine wpAnyH_take (i := 42) (v := _) rfl (by kernel_rfl) (by kernel_rfl) (by kernel_rfl) (fun _ _ _ h => h) (Or.inr ⟨by rfl, rfl⟩) kQ ?_
      simp only [List.getElem_toArray, List.getElem_cons_succ, List.getElem_cons_zero, Act.put, List.setIfInBounds_toArray, List.set_cons_zero, List.set_cons_succ]
      first
        | (refine wpAnyH_take (i := 43) (v := _) rfl (by kernel_rfl) (by kernel_rfl) (by kernel_rfl) (fun _ _ _ h => h) (Or.inr ⟨by rfl, rfl⟩) kQ ?_; simp only [List.getElem_toArray, List.getElem_cons_succ, List.getElem_cons_zero, Act.put, List.setIfInBounds_toArray, List.set_cons_zero, List.set_cons_succ])
        | (refine wpAnyH_ready (rs := [43]) (by kernel_rfl) (by simp) ?_; refine AllReadyH.cons rfl (fun K hK => ?_) AllReadyH.nil; rw [if_neg (by decide)]; refine hK.out _ _ kQ (fun _ => ?_); clear hK K; simp only [List.getElem_toArray, List.getElem_cons_succ, List.getElem_cons_zero, Act.put, List.setIfInBounds_toArray, List.set_cons_zero, List.set_cons_succ])
      refine wpAnyH_take (i := 44) (v := _) rfl (by kernel_rfl) (by kernel_rfl) (by kernel_rfl) (fun _ _ _ h => h) (Or.inr ⟨by rfl, rfl⟩) kQ ?_
      simp only [List.getElem_toArray, List.getElem_cons_succ, List.getElem_cons_zero, Act.put, List.setIfInBounds_toArray, List.set_cons_zero, List.set_cons_succ]
      refine wpAnyH_take (i := 45) (v := ?_) rfl (by kernel_rfl) (by kernel_rfl) (by kernel_rfl) (fun _ _ _ h => h) (Or.inl ⟨by rfl, ?_⟩) kQ ?_
      rotate_left
      · (intro w9 hS9; (try dsimp only at hS9); go_simp; (try with_reducible rfl))
      simp only [List.getElem_toArray, List.getElem_cons_succ, List.getElem_cons_zero, Act.put, List.setIfInBounds_toArray, List.set_cons_zero, List.set_cons_succ]
      refine wpAnyH_done (by kernel_rfl) ?_ _
      refine NoPanic.normal ?_
      go_wp2_with fail
      refine bodyPost_ret (v := .tuple #[.int .i64 0, .int .i64 0, .int .i64 0, .int .i64 3]) (by simp [results, Tryz.results38, go_sem]) rfl ⟨?_, ?_⟩
      · rw [HE.out]
      · exact bT HBV.out (by repeat' (first | exact NB.out | apply bD))
    have KI2 : Hid (∀ W, Calls Tryz.prog 65 #[.int .i64 n2, .int .i64 0, .int .i64 1] W fun e w' => e = .returned (.bool true) ∧ W = w') := fun W => specIs_any n2 0 1 true W (by simp; omega)
    have hmul : IntKind.i64.wrap (64 * (hn : Int)) = 64 * (hn : Int) := IntWalk.i64_in _ ⟨by omega, by omega⟩
    by_cases f3 : 0 ≤ n3 ∧ n3 ≤ ((64 * hn : Nat) : Int)
    rotate_left
    · have KI3 : Hid (∀ W, Calls Tryz.prog 65 #[.int .i64 n3, .int .i64 0, .int .i64 (64 * (hn : Int))] W fun e w' => e = .returned (.bool false) ∧ W = w') := fun W => specIs_any n3 0 _ false W (by simp; omega)
      have HE : Hid _ := HOUT.out HC.out.1 HC.out.2.1 HC.out.2.2 (by omega)
      go_wp2_with fail
      go_region_held3 (fun W => W.cell? ⟨w.heap.size, 0, none⟩ = some vs ∧ W.cell? ⟨w.heap.size, 1, none⟩ = some vp ∧ W.cell? ⟨g7, 0, none⟩ = some (.int .i64 n1) ∧ W.cell? ⟨g7, 2, none⟩ = some (.int .i64 (c1 : Int)) ∧ W.cell? ⟨g8, 0, none⟩ = some (.int .i64 n2) ∧ W.cell? ⟨g8, 2, none⟩ = some (.int .i64 (c2 : Int)) ∧ W.cell? ⟨g9, 0, none⟩ = some (.int .i64 n3) ∧ W.cell? ⟨g9, 2, none⟩ = some (.int .i64 (c3 : Int)))
            (exact kQ)
            (first
              | (go_at_call 45; refine (KHD.out _).mono ?_; rintro e u ⟨rfl, hb⟩; have NB : Hid (Below V.heap.size V u) := bT (by repeat' (first | exact NB.out | apply bD)) hb; clear kQ; have kQ := KC.out _ NB.out; clear hb)
              | (go_at_call 39; refine (K42.out _ (by repeat' (first | exact NB.out | apply bD))).mono ?_; rintro e u ⟨us, up, rfl, hb⟩; have NB : Hid (Below V.heap.size V u) := bT (by repeat' (first | exact NB.out | apply bD)) hb; clear kQ; have kQ := KC.out _ NB.out; clear hb)
              | (go_at_call_of 65 (Value.int .i64 n2); refine (KI2.out _).mono ?_; rintro e u ⟨rfl, rfl⟩)
              | (go_at_call 43; refine (K19.out _ (by repeat' (first | exact NB.out | apply bD))).mono ?_; rintro e u ⟨rfl, hb⟩; have NB : Hid (Below V.heap.size V u) := bT (by repeat' (first | exact NB.out | apply bD)) hb; clear kQ; have kQ := KC.out _ NB.out; clear hb)
              | (go_at_call_of 65 (Value.int .i64 n3); refine (KI3.out _).mono ?_; rintro e u ⟨rfl, rfl⟩))
      go_wp2_with fail
      refine bodyPost_ret (v := .tuple #[.int .i64 0, .int .i64 0, .int .i64 0, .int .i64 3]) (by simp [results, Tryz.results38, go_sem]) rfl ⟨?_, ?_⟩
      · rw [HE.out]
      · exact bT HBV.out (by repeat' (first | exact NB.out | apply bD))
    · have KI3 : Hid (∀ W, Calls Tryz.prog 65 #[.int .i64 n3, .int .i64 0, .int .i64 (64 * (hn : Int))] W fun e w' => e = .returned (.bool true) ∧ W = w') := fun W => specIs_any n3 0 _ true W (by simp; omega)
      have HE : Hid _ := HGOOD.out HC.out.1 HC.out.2.1 HC.out.2.2 rfl ⟨by omega, f2, f3⟩
      go_wp2_with fail
      go_region_held3 (fun W => W.cell? ⟨w.heap.size, 0, none⟩ = some vs ∧ W.cell? ⟨w.heap.size, 1, none⟩ = some vp ∧ W.cell? ⟨g7, 0, none⟩ = some (.int .i64 n1) ∧ W.cell? ⟨g7, 2, none⟩ = some (.int .i64 (c1 : Int)) ∧ W.cell? ⟨g8, 0, none⟩ = some (.int .i64 n2) ∧ W.cell? ⟨g8, 2, none⟩ = some (.int .i64 (c2 : Int)) ∧ W.cell? ⟨g9, 0, none⟩ = some (.int .i64 n3) ∧ W.cell? ⟨g9, 2, none⟩ = some (.int .i64 (c3 : Int)))
            (exact kQ)
            (first
              | (go_at_call 45; refine (KHD.out _).mono ?_; rintro e u ⟨rfl, hb⟩; have NB : Hid (Below V.heap.size V u) := bT (by repeat' (first | exact NB.out | apply bD)) hb; clear kQ; have kQ := KC.out _ NB.out; clear hb)
              | (go_at_call 39; refine (K42.out _ (by repeat' (first | exact NB.out | apply bD))).mono ?_; rintro e u ⟨us, up, rfl, hb⟩; have NB : Hid (Below V.heap.size V u) := bT (by repeat' (first | exact NB.out | apply bD)) hb; clear kQ; have kQ := KC.out _ NB.out; clear hb)
              | (go_at_call_of 65 (Value.int .i64 n2); refine (KI2.out _).mono ?_; rintro e u ⟨rfl, rfl⟩)
              | (go_at_call 43; refine (K19.out _ (by repeat' (first | exact NB.out | apply bD))).mono ?_; rintro e u ⟨rfl, hb⟩; have NB : Hid (Below V.heap.size V u) := bT (by repeat' (first | exact NB.out | apply bD)) hb; clear kQ; have kQ := KC.out _ NB.out; clear hb)
              | (go_at_call_of 65 (Value.int .i64 n3); refine (KI3.out _).mono ?_; rintro e u ⟨rfl, rfl⟩))
      go_wp2_with fail
      go_quiet (fail)
      go_wp2_with fail
      refine bodyPost_ret (v := .tuple #[.int .i64 n1, .int .i64 n2, .int .i64 n3, .int .i64 0]) (by simp [results, Tryz.results38, go_sem]) rfl ⟨?_, ?_⟩
      · rw [HE.out]
      · exact bT HBV.out (Sha.bel_drewN (by repeat' (first | exact NB.out | apply bD)) _)
end Go.Proofs.YtkigmpeanllimaaGreatDoor.Disk
