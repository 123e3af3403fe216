/- What the model's StepsOf answers. -/
import Derived.Test.YtfpgobkedfhakaaImplAlike
import Derived.Deep.RegionWith
import Derived.Deep.Cut
import Derived.Test.YtfpgobkedfhakaaJoin
import Derived.Deep.DeepCutAuto
namespace Go.Proofs.Ytfpgobkedfhakaa.Del
open Go.RowKit Go.Proofs.Ytfpgobkedfhakaa.Mem Go.Proofs.Ytfpgobkedfhakaa.Mark Go.Proofs.Ytfpgobkedfhakaa.Harn Go.Proofs.Ytfpgobkedfhakaa.Rws

def preB (a b : ByteArray) (k : Nat) : Bool := if h : k < a.size ∧ k < b.size then decide (a[k]'h.1 = b[k]'h.2) else false
theorem preB_yes {a b : ByteArray} {k : Nat} (h : preB a b k = true) : k < a.size ∧ k < b.size ∧ preGo a b k = preGo a b (k + 1) := by
  unfold preB at h
  split at h
  · rename_i hk; exact ⟨hk.1, hk.2, pre_hit hk.1 hk.2 (by simpa using h)⟩
  · cases h
theorem preB_no {a b : ByteArray} {k : Nat} (h : preB a b k = false) : preGo a b k = k := by
  unfold preB at h
  split at h
  · rename_i hk; exact pre_miss hk.1 hk.2 (by simpa using h)
  · rename_i hk; exact pre_end hk
def sufB (a b : ByteArray) (p k : Nat) : Bool := if h : k < a.size - p ∧ k < b.size - p then decide (a[a.size - 1 - k]'(by omega) = b[b.size - 1 - k]'(by omega)) else false
theorem sufB_yes {a b : ByteArray} {p k : Nat} (h : sufB a b p k = true) : k < a.size - p ∧ k < b.size - p ∧ sufGo a b p k = sufGo a b p (k + 1) := by
  unfold sufB at h
  split at h
  · rename_i hk; exact ⟨hk.1, hk.2, suf_hit hk.1 hk.2 (by simpa using h)⟩
  · cases h
theorem sufB_no {a b : ByteArray} {p k : Nat} (h : sufB a b p k = false) : sufGo a b p k = k := by
  unfold sufB at h
  split at h
  · rename_i hk; exact suf_miss hk.1 hk.2 (by simpa using h)
  · rename_i hk; exact suf_end hk
/-- the list v of steps, in a block of its own -/
def OwnP (W : World) (base : Nat) (v : Value) (l : List Pc) : Prop := OwnR W base 88 3 v (l.map Pc.row)
theorem empty_lit : ByteArray.empty = ⟨#[]⟩ := rfl
theorem slice_text (tx : ByteArray) (a b : Nat) (ha : a ≤ b) (hb : b ≤ tx.size) (i j : Int) (hi : i = a) (hj : j = b) (W : World) : (Instr.slice 9 (.string tx) (some (.int .i64 i)) (some (.int .i64 j)) none).run Try.prog W = .ok (.string (tx.extract a b)) W := by
  subst hi hj
  simp [Instr.slice, Instr.sliceBounds, run_underlying Join.underS, go_sem, ha, hb]
set_option maxRecDepth 100000 in
set_option maxHeartbeats 2000000 in
theorem specOf_any (a b : ByteArray) (w : World) (ha : a.size ≤ 1000000000) (hb : b.size ≤ 1000000000) :
    Calls Try.prog 60 #[.string a, .string b] w fun e w' => ∃ v, e = .returned v ∧ OwnP w' w.heap.size v (stepsN a b) ∧ Below w.heap.size w w' := by
  go_enter Try.func60, Try.ntmps60
  go_wp2
  go_loopw [5] (fun i wr => ∃ k : Nat, k ≤ a.size ∧ k ≤ b.size ∧ i = .int .i64 k ∧ Below w.heap.size w wr ∧ Hid (preGo a b k = preN a b)) (fun i _ => a.size - (intOf i).toNat)
  case atStart => exact ⟨0, by omega, by omega, rfl, Below.refl _ _, rfl⟩
  case round =>
    obtain ⟨k, hka, hkb, rfl, hbel, HP⟩ := hrel
    have HB := hidR hbel
    clear hbel
    have p0 : (0 : Int) ≤ (k : Int) := by omega
    go_wp2_with fail
    go_cut [26] (fun t wx => t = .bool (preB a b k) ∧ Below w.heap.size w wx)
    case first =>
      clear HP
      by_cases h1 : k < a.size
      · have d1 : decide ((k : Int) < (a.size : Int)) = true := by simpa using h1
        by_cases h2 : k < b.size
        · have d2 : decide ((k : Int) < (b.size : Int)) = true := by simpa using h2
          have d3 : ((((a[k]'h1).toNat : Nat) : Int) == (((b[k]'h2).toNat : Nat) : Int)) = preB a b k := by rw [byte_eq]; unfold preB; simp [h1, h2]
          generalize preB a b k = z at *
          go_quiet (fail)
          go_wp2
          go_meet
          exact ⟨rfl, bel_d HB.out _⟩
        · have d2 : decide ((k : Int) < (b.size : Int)) = false := by simpa using h2
          have HD : Hid (preB a b k = false) := by unfold Hid preB; simp [h2]
          go_quiet (fail)
          go_wp2
          go_meet
          exact ⟨by rw [HD.out], bel_d HB.out _⟩
      · have d1 : decide ((k : Int) < (a.size : Int)) = false := by simpa using h1
        have HD : Hid (preB a b k = false) := by unfold Hid preB; simp [h1]
        go_quiet (fail)
        go_wp2
        go_meet
        exact ⟨by rw [HD.out], bel_d HB.out _⟩
    case rest =>
    obtain ⟨rfl, hbel⟩ := hcut
    have HB2 := hidR hbel
    clear hbel HB
    have HY : Hid (preB a b k = true → k < a.size ∧ k < b.size ∧ preGo a b k = preGo a b (k + 1)) := preB_yes
    have HN : Hid (preB a b k = false → preGo a b k = k) := preB_no
    generalize preB a b k = z at *
    cases z
    · have HE : Hid (k = preN a b) := (HN.out rfl).symm.trans HP.out
      clear HP HY HN
      go_wp2
      generalize wr = wq at *
      clear wq
      have w1 : IntKind.i64.wrap ((a.size : Int) - (k : Int)) = (a.size : Int) - (k : Int) := IntWalk.i64_in _ ⟨by omega, by omega⟩
      have w2 : IntKind.i64.wrap ((b.size : Int) - (k : Int)) = (b.size : Int) - (k : Int) := IntWalk.i64_in _ ⟨by omega, by omega⟩
      go_loopw [6] (fun i wr => ∃ z : Nat, z ≤ a.size - k ∧ z ≤ b.size - k ∧ i = .int .i64 z ∧ Below w.heap.size w wr ∧ Hid (sufGo a b k z = sufGo a b k 0)) (fun i _ => a.size - (intOf i).toNat)
      case atStart => exact ⟨0, by omega, by omega, rfl, HB2.out, rfl⟩
      case round =>
        clear HB2
        obtain ⟨z, hza, hzb, rfl, hbel, HP⟩ := hrel
        have HB := hidR hbel
        clear hbel
        have s0 : (0 : Int) ≤ (z : Int) := by omega
        go_wp2_with fail
        go_cut [59] (fun t wx => t = .bool (sufB a b k z) ∧ Below w.heap.size w wx)
        case first =>
          clear HP HE
          by_cases h1 : z < a.size - k
          · have d1 : decide ((z : Int) < (a.size : Int) - (k : Int)) = true := by simp; omega
            by_cases h2 : z < b.size - k
            · have d2 : decide ((z : Int) < (b.size : Int) - (k : Int)) = true := by simp; omega
              obtain ⟨m, hm⟩ : ∃ m, m = a.size - 1 - z := ⟨_, rfl⟩
              obtain ⟨n, hn⟩ : ∃ n, n = b.size - 1 - z := ⟨_, rfl⟩
              have hma : m < a.size := by omega
              have hnb : n < b.size := by omega
              have q1 : (m : Int) < (a.size : Int) := by omega
              have q2 : (n : Int) < (b.size : Int) := by omega
              have q3 : (0 : Int) ≤ (m : Int) := by omega
              have q4 : (0 : Int) ≤ (n : Int) := by omega
              have r1 : IntKind.i64.wrap ((a.size : Int) - 1) = (a.size : Int) - 1 := IntWalk.i64_in _ ⟨by omega, by omega⟩
              have r2 : IntKind.i64.wrap ((b.size : Int) - 1) = (b.size : Int) - 1 := IntWalk.i64_in _ ⟨by omega, by omega⟩
              have r3 : IntKind.i64.wrap ((a.size : Int) - 1 - (z : Int)) = (m : Int) := by rw [show (a.size : Int) - 1 - (z : Int) = (m : Int) by omega]; exact IntWalk.i64_in _ ⟨by omega, by omega⟩
              have r4 : IntKind.i64.wrap ((b.size : Int) - 1 - (z : Int)) = (n : Int) := by rw [show (b.size : Int) - 1 - (z : Int) = (n : Int) by omega]; exact IntWalk.i64_in _ ⟨by omega, by omega⟩
              have d3 : ((((a[m]'hma).toNat : Nat) : Int) == (((b[n]'hnb).toNat : Nat) : Int)) = sufB a b k z := by
                subst hm hn
                rw [byte_eq]; unfold sufB; simp [h1, h2]
              clear hm hn
              generalize sufB a b k z = z9 at *
              go_quiet (fail)
              go_wp2
              go_meet
              exact ⟨rfl, bel_d HB.out _⟩
            · have d2 : decide ((z : Int) < (b.size : Int) - (k : Int)) = false := by simp; omega
              have HD : Hid (sufB a b k z = false) := by unfold Hid sufB; simp [h2]
              go_quiet (fail)
              go_wp2
              go_meet
              exact ⟨by rw [HD.out], bel_d HB.out _⟩
          · have d1 : decide ((z : Int) < (a.size : Int) - (k : Int)) = false := by simp; omega
            have HD : Hid (sufB a b k z = false) := by unfold Hid sufB; simp [h1]
            go_quiet (fail)
            go_wp2
            go_meet
            exact ⟨by rw [HD.out], bel_d HB.out _⟩
        case rest =>
        obtain ⟨rfl, hbel⟩ := hcut
        have HB2 := hidR hbel
        clear hbel HB
        have HY : Hid (sufB a b k z = true → z < a.size - k ∧ z < b.size - k ∧ sufGo a b k z = sufGo a b k (z + 1)) := sufB_yes
        have HN : Hid (sufB a b k z = false → sufGo a b k z = z) := sufB_no
        generalize sufB a b k z = z9 at *
        cases z9
        · have HF : Hid (z = sufN a b) := by
            have h1 := (HN.out rfl).symm.trans HP.out
            have h2 := HE.out
            show z = sufGo a b (preN a b) 0
            rw [← h2]; exact h1
          clear HP HY HN
          have f1 : (k : Int) ≤ (a.size : Int) := by omega
          have f2 : (z : Int) ≤ (a.size : Int) := by omega
          have f3 : (z : Int) ≤ (b.size : Int) := by omega
          have w3 : (a.size : Int) - (z : Int) = ((a.size - z : Nat) : Int) := by omega
          have w4 : (b.size : Int) - (z : Int) = ((b.size - z : Nat) : Int) := by omega
          have HS : Hid (k ≤ b.size - z → ∀ W, (Instr.slice 9 (.string b) (some (.int .i64 (k : Int))) (some (.int .i64 ((b.size - z : Nat) : Int))) none).run Try.prog W = .ok (.string (b.extract k (b.size - z))) W) := fun h W => slice_text b k (b.size - z) h (by omega) _ _ rfl rfl W
          have hst := HS.out (by omega)
          have HL : Hid (stepsN a b = stepsL a b k z) := by unfold Hid stepsN; rw [← HE.out, ← HF.out]
          have w5 : ((a.size - z : Nat) : Int) ≤ 1000000000 := by omega
          have w6 : ((b.size - z : Nat) : Int) ≤ 1000000000 := by omega
          generalize hp : b.extract k (b.size - z) = t at *
          have HPT := hidR hp
          generalize hA : a.size - z = A at *
          have HA := hidR hA
          generalize hBz : b.size - z = Bz at *
          have HBz := hidR hBz
          clear hp hA hBz HE HF w1 w2 HS hza hzb hka hkb f1 s0
          obtain ⟨V0, hV0⟩ : ∃ V, V = wc.alloc (.cells #[] 88) := ⟨_, rfl⟩
          have HO : Hid (OwnR V0 w.heap.size 88 3 (.slice (some ⟨wc.heap.size, 0, none⟩) 0 0) []) := by
            rw [hV0]; exact ownR_empty HB2.out.size (Sha.row_new wc [] _)
          have HB : Hid (Below w.heap.size w V0) := by rw [hV0]; exact HB2.out.alloc HB2.out.size _
          have HZ : Hid (w.heap.size ≤ V0.heap.size) := by have := HB2.out.size; rw [hV0]; show _ ≤ _; simp; omega
          have hX0 := hV0.symm
          clear hV0 HB2
          by_cases c1 : 0 < k <;> by_cases c2 : k < Bz <;> by_cases c3 : 0 < z
          all_goals
            go_wp2_with (at_builtin; refine wp_row kindT (by rfl) _ _ (by rfl) w.heap.size _ _ _ _ (by rfl) (by rfl) (HO.out.below ((Below.refl _ _).alloc (Nat.le_refl _) _) (Nat.le_refl _)) (by have := HZ.out; simp; omega) (by rfl) (Sha.row_new _ [_, _, _] _) (by simp [Value.oneCell']) (by simp) ?_; intro g c y ho hg; (have HBn := hidR (Below.grown (HB.out.alloc HZ.out _) hg (by have := HZ.out; simp; omega) (fun j hj => (HO.out.lt j hj).1))); (have HZn : Hid (w.heap.size ≤ y.heap.size) := HBn.out.size); (have HOn := hidR ho); clear HO HB HZ ho hg; (have HO := HOn); (have HB := HBn); (have HZ := HZn); clear HOn HBn HZn)
            go_ret
            refine ⟨_, rfl, ?_, HB.out⟩
            have hrow := HO.out
            unfold OwnP
            rw [HL.out]
            unfold stepsL
            rw [HA.out, HBz.out]
            simpa [c1, c2, c3, Pc.row, HPT.out, empty_lit] using hrow
        · obtain ⟨y1, y2, y3⟩ := HY.out rfl
          have HP2 : Hid (sufGo a b k (z + 1) = sufGo a b k 0) := y3.symm.trans HP.out
          clear y3 HP HY HN
          go_wp2
          go_roundw
          case rel => exact ⟨z + 1, by omega, by omega, by go_num, HB2.out, HP2⟩
          case measure => simp [intOf]; omega
    · obtain ⟨y1, y2, y3⟩ := HY.out rfl
      have HP2 : Hid (preGo a b (k + 1) = preN a b) := y3.symm.trans HP.out
      clear y3 HP HY HN
      go_wp2
      go_roundw
      case rel => exact ⟨k + 1, by omega, by omega, by go_num, HB2.out, HP2⟩
      case measure => simp [intOf]; omega
end Go.Proofs.Ytfpgobkedfhakaa.Del
