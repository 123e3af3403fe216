/- The law on Gather. -/
import Derived.Test.YtkanhjafchiikaaImplGather
import Derived.Test.YtkanhjafchiikaaSpecGather
import Derived.Test.YtkanhjafchiikaaHarnShards
import Derived.Test.YtkanhjafchiikaaTextsB
namespace Go.Proofs.Ytkanhjafchiikaa.Srt
open Go.RowKit Go.Proofs.Ytkanhjafchiikaa.Mem Go.Proofs.Ytkanhjafchiikaa.Harn Go.Proofs.Ytkanhjafchiikaa.Gf

theorem eqOut_any (o : ByteArray × Int) (w : World) : Calls Try.prog 17 #[outT o, outT o] w fun e w' => e = .returned (.bool true) ∧ Below w.heap.size w w' := EqTextOut.eqTextOut_same o.1 0 o.2 w

theorem sorted_one (l : List E) : ∃ l0 : List E, l0.Perm l ∧ Sorted l0 0 l0.length := by
  refine ⟨l.mergeSort (fun a b => decide (a.1 ≤ b.1)), List.mergeSort_perm _ _, ?_⟩
  have h := List.pairwise_mergeSort (le := fun a b : E => decide (a.1 ≤ b.1)) (fun a b c => by simp; omega) (fun a b => by simp; omega) l
  intro x y _ hxy hy
  rw [List.pairwise_iff_getElem] at h
  rcases Nat.lt_or_ge x y with h1 | h1
  · have h2 := h x y (by omega) hy h1
    rw [kat_at (by omega), kat_at hy]
    simpa using h2
  · obtain rfl : x = y := by omega
    omega
/-- both answer one thing -/
theorem gather_both (need more size : Int) (l : List E) (hl : l.length ≤ 1100000) : ∃ o, (∀ a cap W, Pends W (.slice a l.length cap) l → Calls Try.prog 13 #[.int .i64 need, .int .i64 more, .int .i64 size, .slice a l.length cap] W fun e w' => e = .returned (outT o) ∧ Below W.heap.size W w') ∧ (∀ a cap W, Pends W (.slice a l.length cap) l → Calls Try.prog 12 #[.int .i64 need, .int .i64 more, .int .i64 size, .slice a l.length cap] W fun e w' => e = .returned (outT o) ∧ Below W.heap.size W w') := by
  by_cases hb : l.length ≤ 400
  · obtain ⟨l0, hp, hs⟩ : ∃ l0 : List E, l0.Perm l ∧ Sorted l0 0 l0.length := sorted_one l
    refine ⟨gatherR need more size l0, fun a cap W h => specGather_any need more size a cap l l0 W h hb hp hs, fun a cap W h => (implGather_any need more size a cap l W h hb).mono ?_⟩
    rintro e w' ⟨⟨l', hp', hs', rfl⟩, hb'⟩
    exact ⟨by rw [gatherR_one hp' hs' hp hs], hb'⟩
  · exact ⟨(ByteArray.empty, 2), fun a cap W _ => specGather_big need more size a cap l W (by omega) hl, fun a cap W _ => implGather_big need more size a cap l W (by omega) hl⟩
theorem law_self {w : World} (o : Obj) : Below w.heap.size w (w.alloc o) := (Below.refl _ _).alloc (Nat.le_refl _) _
set_option maxRecDepth 100000 in
set_option maxHeartbeats 1000000 in
theorem gather_law (need more size : Int) (v : Value) (l : List E) (w : World) (_ : (Lit.int .i64 need).wf = true) (_ : (Lit.int .i64 more).wf = true) (_ : (Lit.int .i64 size).wf = true) (h : Pends w v l) (hn : l.length ≤ maxLen) (hs : ∀ y ∈ l, y.2.size ≤ maxLen) :
    Calls Try.prog 4 #[.int .i64 need, .int .i64 more, .int .i64 size, v] w fun e w' => e = .returned (.bool true) ∧ Below w.heap.size w w' := by
  have HZ : Hid (∀ W, Below w.heap.size w W → Calls Try.prog 15 #[v, .int .i64 1048576] W fun e w' => Below W.heap.size W w' ∧ ((∃ r : Nat, e = .returned (.int .i64 (r : Int)) ∧ r + l.length + wtP l = 1048576) ∨ (e = .returned (.int .i64 (-1)) ∧ 1048576 < l.length + wtP l))) := fun W hB => szSh_any v l 1048576 W (Pends.below h hB) hn (by omega) hs
  have HPE : Hid (Pends w v l) := h
  clear h hs
  go_enter Try.func4, Try.ntmps4
  go_wp2_with fail
  refine (HZ.out _ (Below.refl _ _)).mono ?_
  rintro e w1 ⟨hb1, ⟨rr, rfl, hrr⟩ | ⟨rfl, _⟩⟩
  · have hl : l.length ≤ 1100000 := by omega
    have hr2 : ¬ ((rr : Int) < 0) := by omega
    have HL : Hid (l.length ≤ 1100000) := hl
    have HTO : Hid (∀ W, Below w.heap.size w W → Calls Try.prog 16 #[v] W fun e w' => e = .returned (.slice (some ⟨W.heap.size, 0, none⟩) l.length l.length) ∧ PendsAt w' W.heap.size 0 l ∧ Below W.heap.size W w' ∧ W.heap.size < w'.heap.size) := fun W hB => toSh_any v l W (Pends.below HPE.out hB) hl
    obtain ⟨⟨ot, oc⟩, hsp, him⟩ := gather_both need more size l hl
    have HSP : Hid (∀ a cap W, Pends W (.slice a l.length cap) l → Calls Try.prog 13 #[.int .i64 need, .int .i64 more, .int .i64 size, .slice a l.length cap] W fun e w' => e = .returned (.agg #[.string ot, .int .i64 0, .int .i64 oc]) ∧ Below W.heap.size W w') := hsp
    have HIM : Hid (∀ a cap W, Pends W (.slice a l.length cap) l → Calls Try.prog 12 #[.int .i64 need, .int .i64 more, .int .i64 size, .slice a l.length cap] W fun e w' => e = .returned (.agg #[.string ot, .int .i64 0, .int .i64 oc]) ∧ Below W.heap.size W w') := him
    have HB1 : Hid (Below w.heap.size w w1) := hb1
    clear hrr hl hsp him hb1
    go_wp2_with fail
    refine (HTO.out _ HB1.out).mono ?_
    rintro e w2 ⟨rfl, hp2, hb2, _⟩
    have HB2 : Hid (Below w.heap.size w w2) := bstep HB1.out hb2
    have HP2 : Hid (Pends w2 (.slice (some ⟨w1.heap.size, 0, none⟩) l.length l.length) l) := hp2.pends _
    clear hp2 hb2
    go_wp2_with fail
    refine (HSP.out _ _ _ HP2.out).mono ?_
    rintro e w3 ⟨rfl, hb3⟩
    have HB3 : Hid (Below w.heap.size w w3) := bstep HB2.out hb3
    clear hb3
    go_wp2_with fail
    obtain ⟨W3, hW3⟩ : ∃ W3, W3 = w3.alloc (.cells #[.string ot, .int .i64 0, .int .i64 oc] 32) := ⟨_, rfl⟩
    have HBW3 : Hid (Below w.heap.size w W3) := by rw [hW3]; exact HB3.out.alloc HB3.out.size _
    have HA3 : Hid (HasRow W3 w3.heap.size [.string ot, .int .i64 0, .int .i64 oc] 32) := by rw [hW3]; exact Sha.row_new w3 [.string ot, .int .i64 0, .int .i64 oc] 32
    have HZA : Hid (w3.heap.size < W3.heap.size) := by rw [hW3]; show _ < (World.heap _).size; simp
    rw [← hW3]
    clear hW3
    refine (HTO.out _ HBW3.out).mono ?_
    rintro e w4 ⟨rfl, hp4, hb4, _⟩
    have HB4 : Hid (Below w.heap.size w w4) := bstep HBW3.out hb4
    have HP4 : Hid (Pends w4 (.slice (some ⟨W3.heap.size, 0, none⟩) l.length l.length) l) := hp4.pends _
    have HA4 : Hid (HasRow w4 w3.heap.size [.string ot, .int .i64 0, .int .i64 oc] 32) := Sha.row_below HA3.out hb4 HZA.out
    have HZ4 : Hid (w3.heap.size < w4.heap.size) := by have h1 := HZA.out; have h2 := hb4.size; show _ < _; omega
    clear hp4 hb4 HA3
    go_wp2_with fail
    refine (HIM.out _ _ _ HP4.out).mono ?_
    rintro e w5 ⟨rfl, hb5⟩
    have HB5 : Hid (Below w.heap.size w w5) := bstep HB4.out hb5
    have HP5 : Hid (Pends w5 (.slice (some ⟨W3.heap.size, 0, none⟩) l.length l.length) l) := Pends.below HP4.out hb5
    have HA5 : Hid (HasRow w5 w3.heap.size [.string ot, .int .i64 0, .int .i64 oc] 32) := Sha.row_below HA4.out hb5 HZ4.out
    have hz5 : w3.heap.size < w5.heap.size := by have h1 := HZ4.out; have h2 := hb5.size; omega
    have a0 : w5.cell? ⟨w3.heap.size, 0, none⟩ = some (.string ot) := Mem.cell_of_row HA5.out 0
    have a1 : w5.cell? ⟨w3.heap.size, 1, none⟩ = some (.int .i64 0) := Mem.cell_of_row HA5.out 1
    have a2 : w5.cell? ⟨w3.heap.size, 2, none⟩ = some (.int .i64 oc) := Mem.cell_of_row HA5.out 2
    clear hb5
    go_wp2_with fail
    refine (eqOut_any (ot, oc) _).mono ?_
    rintro e w6 ⟨rfl, hb6⟩
    have HW6 : Hid (Below w5.heap.size w5 w6) := (law_self _).trans (hb6.mono (by simp))
    have HB6 : Hid (Below w.heap.size w w6) := bstep HB5.out HW6.out
    have HP6 : Hid (Pends w6 (.slice (some ⟨W3.heap.size, 0, none⟩) l.length l.length) l) := Pends.below HP5.out HW6.out
    clear hb6 a0 a1 a2
    go_wp2_with fail
    refine (HTO.out _ HB6.out).mono ?_
    rintro e w7 ⟨rfl, hp7, hb7, _⟩
    have HB7 : Hid (Below w.heap.size w w7) := bstep HB6.out hb7
    have HP7 : Hid (Pends w7 (.slice (some ⟨w6.heap.size, 0, none⟩) l.length l.length) l) := hp7.pends _
    have HP67 : Hid (Pends w7 (.slice (some ⟨W3.heap.size, 0, none⟩) l.length l.length) l) := Pends.below HP6.out hb7
    clear hp7 hb7
    go_wp2_with fail
    refine (eqSh_any _ _ l _ HP67.out HP7.out HL.out).mono ?_
    rintro e w8 ⟨rfl, hb8⟩
    have HB8 : Hid (Below w.heap.size w w8) := bstep HB7.out hb8
    clear hb8
    go_wp2
    go_ret
    exact ⟨rfl, HB8.out⟩
  · go_wp2
    go_ret
    exact ⟨rfl, hb1⟩
end Go.Proofs.Ytkanhjafchiikaa.Srt
