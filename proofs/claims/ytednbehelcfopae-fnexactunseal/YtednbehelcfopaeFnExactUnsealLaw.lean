/- For every text the program's Unseal answers as the model's, and the text reads behind the call as it read before; there is no further condition. -/
import Derived.Test.YtednbehelcfopaeRows
import Derived.Test.YtednbehelcfopaeSpecUnseal
import Derived.Test.YtednbehelcfopaeImplUnseal
import Derived.Test.YtednbehelcfopaeEqTextOut
import Derived.WalkKit
import Derived.ProofKit
import Derived.OpenShut
import Derived.ShutString
import Derived.Below
namespace Go.Proofs.Ytednbehelcfopae.fnExactUnseal
open Go.ChangeShapes Go.WideShapes Go.ChangeAt Go.RowKit
open Go.ChangeMaps (open_string shut_string)
set_option linter.unusedVariables false

theorem own : ownKnob Try.prog.godebug = none := by kernel_rfl

theorem core (a0 : ByteArray) (t : ByteArray) (x y : Int) (w : World) (hm : a0.size ≤ 1048576)
    (K1 : ∀ w, Calls Try.prog 10 #[.string a0] w fun e w' => e = .returned (.agg #[.string t, .int .i64 x, .int .i64 y]) ∧ Below w.heap.size w w')
    (K2 : ∀ w, Calls Try.prog 11 #[.string a0] w fun e w' => e = .returned (.agg #[.string t, .int .i64 x, .int .i64 y]) ∧ Below w.heap.size w w') :
    Calls Try.prog 5 #[.string a0] w fun e w' => e = .returned (.bool true) ∧ Below w.heap.size w w' := by
  have H1 : Hid _ := K1
  have H2 : Hid _ := K2
  clear K1 K2
  go_enter Try.func5, Try.ntmps5
  go_wp2_with (first | (go_at_call 10; refine (H1.out _).mono ?_; rintro e w1 ⟨rfl, hb1⟩) | (go_at_call 11; refine (H2.out _).mono ?_; rintro e w2 ⟨rfl, hb2⟩; obtain ⟨hcc, hff⟩ := Unseal.bcell hb2; simp at hcc hff; have hs2 := hb2.size; simp at hs2; have hlt : w1.heap.size < w2.heap.size := by omega) | (go_at_call 12; refine (EqTextOut.eqTextOut_same _ _ _ _).mono ?_; rintro e w3 ⟨rfl, hb3⟩))
  go_ret
  exact ⟨rfl, Mem.bstep (Mem.balloc (Mem.bstep (Mem.balloc hb1 _) hb2) _) hb3⟩


theorem walk (a0 : ByteArray) (w0 : a0.size ≤ maxLen) (w : World) :
    Calls Try.prog 5 #[.string a0] w fun e w' => e = .returned (.bool true) ∧ Below w.heap.size w w' := by
  by_cases hb : (1048576 : Int) < a0.size
  · go_enter Try.func5, Try.ntmps5
    go_wp2
    go_ret
    exact ⟨rfl, Below.refl _ _⟩
  · by_cases h8 : a0.size ≤ 8000
    · by_cases h4 : 4 ≤ a0.size
      · cases hq : Unseal.okSeal a0
        · have hv : Unseal.unsealV a0 = .agg #[.string ByteArray.empty, .int .i64 0, .int .i64 5] := by unfold Unseal.unsealV; rw [hq]; rfl
          exact core a0 _ _ _ w (by omega) (fun w => by rw [← hv]; exact Unseal.specUnseal_in a0 w h8 h4) (fun w => by rw [← hv]; exact Unseal.implUnseal_in a0 w h8 h4)
        · have hv : Unseal.unsealV a0 = .agg #[.string (a0.extract 0 (a0.size - 4)), .int .i64 0, .int .i64 0] := by unfold Unseal.unsealV; rw [hq]; rfl
          exact core a0 _ _ _ w (by omega) (fun w => by rw [← hv]; exact Unseal.specUnseal_in a0 w h8 h4) (fun w => by rw [← hv]; exact Unseal.implUnseal_in a0 w h8 h4)
      · exact core a0 _ _ _ w (by omega) (fun w => Unseal.specUnseal_short a0 w (by omega)) (fun w => Unseal.implUnseal_short a0 w (by omega))
    · exact core a0 _ _ _ w (by omega) (fun w => Unseal.specUnseal_big a0 w (by omega) (by omega)) (fun w => Unseal.implUnseal_big a0 w (by omega) (by omega))

set_option maxRecDepth 100000 in
theorem lifted (os : Os) (started : os.Started) (H : Type) (enc : TypeId × Value → H) :
    ReturnsInHanded {} Try.checked os 5 .any (Rows.fnExactUnsealSpec.pre6 enc Try.prog Try.f5 Rows.fnExactUnsealRow.domain false) (Rows.fnExactUnsealSpec.post enc Try.prog Try.f5 false true false false) := by
  refine returnsInHanded_of_change (C := Try.checked) own started (by kernel_rfl) Try.func5
    (ChangeSpec.witness6 (enc := enc) (C := Try.checked) false ⟨#[], #[.string ByteArray.empty], []⟩ 8 (by kernel_rfl) (by kernel_rfl) (by kernel_rfl) (by kernel_rfl)) ?_
  intro W base args ds gs before hval0 hW hcnd _
  have hval : ∀ (j : Nat) t v, Try.f5.params[j]? = some t → args[j]? = some v → Value.okWide Try.prog W .any base t v := hval0
  have hW' := hW
  obtain ⟨p, q, hA0, hV, rfl, hfz, hnd⟩ := hW
  have hA : DataW.TrodAll enc Try.prog W 0 (fun _ => true) true Try.f5.params.toList args.toList ds p := hA0
  rw [Try.params5] at hA hval
  obtain ⟨v0, vs0, d0, ds0, p0, q0, hargs, rfl, rfl, h0, r0⟩ := trodAll_cons hA
  obtain ⟨rfl, rfl, rfl⟩ := trodAll_nil r0
  obtain rfl : args = #[v0] := by cases args; simp_all
  obtain ⟨rfl, rfl⟩ := trodVars_none hV
  obtain ⟨a0, rfl, rfl, rfl, w0⟩ := open_string Try.underlying9 (hval 0 9 v0 rfl rfl) h0
  clear hA0 hval0
  simp only [List.append_nil] at hW'
  refine (walk a0 w0 W).mono fun e W' ⟨he, hg⟩ => ?_
  subst he
  exact ⟨_, rfl, _, _, _, [], [], [], hW', (trodAll_cons_mk (shut_bool Try.underlying4 _) trodAll_mk0), (trodAll_cons_mk (shut_string Try.underlying9 w0) trodAll_mk0), rfl, hg.frame _, fun h => by cases h⟩

theorem over : Rows.fnExactUnsealRow.holds Try.pinned (OpenSpec.ofChange Rows.fnExactUnsealSpec) :=
  OpenClaim.holds_of_wide 5 Try.f5 rfl rfl rfl rfl rfl rfl rfl ⟨rfl, rfl, rfl, rfl, rfl⟩ rfl rfl rfl rfl rfl (by kernel_rfl) Try.func5 (by kernel_rfl)
    (of_decide_eq_true (by kernel_rfl)) (by unfold Func.isWrapper; first | (rw [if_pos (by decide +kernel)]; kernel_rfl) | (rw [if_neg (by decide +kernel)]; exact ⟨rfl, rfl⟩))
    (fun os started H enc _ => lifted os started H enc)

theorem proved : Rows.FnExactUnsealSaid :=
  over
end Go.Proofs.Ytednbehelcfopae.fnExactUnseal
namespace Go.Proofs.Ytednbehelcfopae
theorem fnExactUnseal_holds : Rows.FnExactUnsealSaid := fnExactUnseal.proved
#print axioms fnExactUnseal_holds
end Go.Proofs.Ytednbehelcfopae
