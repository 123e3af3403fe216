/- The law on StepsOf. -/
import Derived.Test.YtfpgobkedfhakaaImplStepsOf
namespace Go.Proofs.Ytfpgobkedfhakaa.Del
open Go.RowKit Go.Proofs.Ytfpgobkedfhakaa.Mem Go.Proofs.Ytfpgobkedfhakaa.Mark Go.Proofs.Ytfpgobkedfhakaa.Harn Go.Proofs.Ytfpgobkedfhakaa.Rws

set_option maxRecDepth 100000 in
set_option maxHeartbeats 2000000 in
theorem stepsOf_law (a b : ByteArray) (w : World) (ha0 : a.size ≤ maxLen) (hb0 : b.size ≤ maxLen) :
    Calls Try.prog 5 #[.string a, .string b] w fun e w' => e = .returned (.bool true) ∧ Below w.heap.size w w' := by
  unfold maxLen at ha0 hb0
  by_cases hma : (1048576 : Int) < (a.size : Int)
  · go_enter Try.func5, Try.ntmps5
    go_wp2
    go_ret
    exact ⟨rfl, Below.refl _ _⟩
  · by_cases hmb : (1048576 : Int) < (b.size : Int)
    · go_enter Try.func5, Try.ntmps5
      go_wp2
      go_ret
      exact ⟨rfl, Below.refl _ _⟩
    · have HS := hidR (fun W => specSO_any a b W (by omega) (by omega))
      have HI := hidR (fun W => implSO_any a b W (by omega) (by omega))
      have hl := stepsO_len a b
      generalize stepsO a b = l at *
      have HLE : Hid (l.length ≤ 1100000) := by show _ ≤ _; omega
      obtain ⟨T, hT, hT0⟩ : ∃ T : Int, T = ((1 + 3 * l.length : Nat) : Int) ∧ 0 ≤ T := ⟨_, rfl, by omega⟩
      have HTT := hidR hT
      have hn0 : ¬ T < 0 := by omega
      clear hl hT ha0 hb0
      go_enter Try.func5, Try.ntmps5
      go_wp2_with fail
      refine (HS.out _).mono ?_
      rintro e w1 ⟨v0, rfl, ho1, hb1⟩
      have HM1 := hidR (mk_own ho1)
      have HB1 := hidR hb1
      clear ho1 hb1 HS
      go_wp2_with fail
      refine (HI.out _).mono ?_
      rintro e w2 ⟨v1, rfl, ho2, hb2⟩
      have HM2 := hidR (mk_own ho2)
      have HW2 := hidR (HM1.out.below hb2)
      have HF := hidR ho2.lt
      have HB2 := hidR hb2
      clear ho2 hb2
      have KE := hidR (eqs_any v1 v0 l w2 HM2.out.ls HW2.out.ls HLE.out)
      go_wp2_with fail
      refine (KE.out).mono ?_
      rintro e w3 ⟨rfl, hb3⟩
      have HM3 := hidR (HM2.out.below hb3)
      have HW3 := hidR (HW2.out.below hb3)
      have HB3 := hidR (HB2.out.trans (hb3.mono HB2.out.size))
      have hs3 := hb3.size
      clear hb3 HM2 HW2 HB2 KE
      have KM := markMk_any v1 1 l w3 HM3.out HLE.out (by omega)
      rw [← HTT.out] at KM
      have KMH := hidR KM
      clear KM
      go_wp2_with fail
      refine (KMH.out).mono ?_
      rintro e w4 ⟨rfl, hm4, hg4⟩
      have HM4 := hidR hm4
      have HB4 := hidR (Below.grown HB3.out hg4 HB3.out.size (fun j hj => (HF.out j hj).1))
      have hs4 := hg4.size
      have HW4 := hidR (HM1.out.below HB4.out).ls
      clear hm4 hg4 HM3 HW3 HB3 KMH HM1
      have KH := helds_any v1 1 l.length w4 HM4.out.ls HLE.out (by omega)
      rw [← HTT.out] at KH
      have KHH := hidR KH
      clear KH
      go_wp2_with fail
      refine (KHH.out).mono ?_
      rintro e w5 ⟨rfl, hb5⟩
      have HM5 := hidR (HM4.out.below hb5)
      have HW5 := hidR (HW4.out.below hb5)
      have HB5 := hidR (HB4.out.trans (hb5.mono HB4.out.size))
      clear hb5 HM4 HW4 HB4 KHH
      go_wp2_with fail
      refine (HI.out _).mono ?_
      rintro e w6 ⟨v2, rfl, ho6, hb6⟩
      have HN6 := hidR (mk_own ho6)
      have HM6 := hidR (HM5.out.below hb6)
      have HW6 := hidR (HW5.out.below hb6)
      have HB6 := hidR (HB5.out.trans (hb6.mono HB5.out.size))
      clear ho6 hb6 HM5 HW5 HB5 HI
      have KE := hidR (eqs_any v2 v0 l w6 HN6.out.ls HW6.out HLE.out)
      go_wp2_with fail
      refine (KE.out).mono ?_
      rintro e w7 ⟨rfl, hb7⟩
      have HM7 := hidR (HM6.out.below hb7)
      have HB7 := hidR (HB6.out.trans (hb7.mono HB6.out.size))
      clear hb7 HN6 HM6 HW6 HB6 KE
      have KH := helds_any v1 1 l.length w7 HM7.out.ls HLE.out (by omega)
      rw [← HTT.out] at KH
      have KHH := hidR KH
      clear KH
      go_wp2_with fail
      refine (KHH.out).mono ?_
      rintro e w8 ⟨rfl, hb8⟩
      have HB8 := hidR (HB1.out.trans ((HB7.out.trans (hb8.mono HB7.out.size)).mono HB1.out.size))
      clear hb8 HB7 KHH HM7
      go_wp2
      go_ret
      exact ⟨rfl, HB8.out⟩
end Go.Proofs.Ytfpgobkedfhakaa.Del
