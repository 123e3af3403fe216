/- The law on OpsBytes. -/
import Derived.Test.YtfpgobkedfhakabImplOB
import Derived.Test.YtfpgobkedfhakabTextsE
namespace Go.Proofs.Ytfpgobkedfhakab.Ops
open Go.RowKit Go.Proofs.Ytfpgobkedfhakab.Mem Go.Proofs.Ytfpgobkedfhakab.Mark Go.Proofs.Ytfpgobkedfhakab.Harn Go.Proofs.Ytfpgobkedfhakab.Rws

theorem inner_len {l : List Ox} {r left : Nat} (h : r + l.length + wts l = left) (hl : left ≤ 1048576) : l.length ≤ 1100000 ∧ ∀ x ∈ l, x.s.length ≤ 1100000 := ⟨by omega, fun x hx => by have := wt_len hx; omega⟩
set_option maxRecDepth 100000 in
set_option maxHeartbeats 2000000 in
theorem opsBytes_law (v : Value) (l : List Ox) (w : World) (h : Ls w v l) (hn : l.length ≤ maxLen) (hz : ∀ y ∈ l, okIn y) :
    Calls Try.prog 3 #[v] w fun e w' => e = .returned (.bool true) ∧ Below w.heap.size w w' := by
  have hs := okSz_of hz
  have KZ := hidR (fun W (hW : Ls W v l) => szs_any v l 1048576 W hW hn (by omega) hs)
  have KT : Hid (l.length ≤ 1100000 → (∀ x ∈ l, x.s.length ≤ 1100000) → ∀ W, Ls W v l → Calls Try.prog 6 #[v] W fun e w' => e = .returned (.slice (some ⟨W.heap.size, 0, none⟩) l.length l.length) ∧ Ls w' (.slice (some ⟨W.heap.size, 0, none⟩) l.length l.length) l ∧ Below W.heap.size W w') := fun h h2 W hW => tos_any v l W hW h h2
  have KE : Hid (l.length ≤ 1100000 → (∀ x ∈ l, x.s.length ≤ 1100000) → ∀ v1 v2 W, Ls W v1 l → Ls W v2 l → Calls Try.prog 8 #[v1, v2] W fun e w' => e = .returned (.bool true) ∧ Below W.heap.size W w') := fun h hh v1 v2 W h1 h2 => eqs_any v1 v2 l W h1 h2 h hh
  have KS : Hid (∀ u W, Ls W u l → Calls Try.prog 5 #[u] W fun e w' => e = .returned (.string (opsO l)) ∧ Below W.heap.size W w') := fun u W hW => specOB_any u l W hW hn hs
  have KI : Hid (∀ u W, Ls W u l → Calls Try.prog 7 #[u] W fun e w' => e = .returned (.string (opsO l)) ∧ Below W.heap.size W w') := fun u W hW => implOB_any u l W hW hn hs
  have HF := hidR h
  generalize opsO l = z at *
  clear h hz hs hn
  go_enter Try.func3, Try.ntmps3
  go_wp2_with fail
  refine (KZ.out _ HF.out).mono ?_
  rintro e w1 ⟨hb1, hr⟩
  have HB1 := hidR hb1
  have HF1 := hidR (HF.out.below hb1)
  clear hb1 KZ HF
  rcases hr with ⟨r, rfl, h2⟩ | ⟨rfl, h2⟩
  · obtain ⟨i1, i2⟩ := inner_len h2 (by omega)
    have KT' := hidR (KT.out i1 i2)
    have KE' := hidR (KE.out i1 i2)
    clear KT KE h2 i1 i2
    go_wp2_with fail
    refine (KT'.out _ HF1.out).mono ?_
    rintro e w2 ⟨rfl, hl2, hb2⟩
    have HL2 := hidR hl2
    have HB2 := hidR (bstep HB1.out hb2)
    have HF2 := hidR (HF1.out.below hb2)
    clear hl2 hb2 HB1 HF1
    go_wp2_with fail
    refine (KS.out _ _ HL2.out).mono ?_
    rintro e w3 ⟨rfl, hb3⟩
    have HB3 := hidR (bstep HB2.out hb3)
    have HF3 := hidR (HF2.out.below hb3)
    clear hb3 HB2 HF2 HL2
    go_wp2_with fail
    refine (KT'.out _ HF3.out).mono ?_
    rintro e w4 ⟨rfl, hl4, hb4⟩
    have HL4 := hidR hl4
    have HB4 := hidR (bstep HB3.out hb4)
    have HF4 := hidR (HF3.out.below hb4)
    clear hl4 hb4 HB3 HF3
    go_wp2_with fail
    refine (KI.out _ _ HL4.out).mono ?_
    rintro e w5 ⟨rfl, hb5⟩
    have HB5 := hidR (bstep HB4.out hb5)
    have HF5 := hidR (HF4.out.below hb5)
    have HL5 := hidR (HL4.out.below hb5)
    clear hb5 HB4 HF4 HL4
    go_wp2_with fail
    refine (KT'.out _ HF5.out).mono ?_
    rintro e w6 ⟨rfl, hl6, hb6⟩
    have HB6 := hidR (bstep HB5.out hb6)
    have HL6 := hidR (HL5.out.below hb6)
    have HM6 := hidR hl6
    clear hl6 hb6 HB5 HF5 HL5
    go_wp2_with fail
    refine (KE'.out _ _ _ HL6.out HM6.out).mono ?_
    rintro e w7 ⟨rfl, hb7⟩
    have HB7 := hidR (bstep HB6.out hb7)
    clear hb7
    go_wp2
    go_ret
    exact ⟨rfl, HB7.out⟩
  · go_wp2
    go_ret
    exact ⟨rfl, HB1.out⟩
end Go.Proofs.Ytfpgobkedfhakab.Ops
