/- What is drawn for FnNums. -/
import Derived.Test.YtednbehelcfopaaDoorSource
namespace Go.Proofs.YtednbehelcfopaaDoor.Draw
open Go.RowKit Go.Proofs.YtednbehelcfopaaDoor.Mem

set_option maxRecDepth 100000 in
set_option maxHeartbeats 1000000 in
theorem any_any (W : World) (g : Nat) (a : Option Addr) (len cap : Nat) (zs : List Int) (h : Src W g a len cap zs) :
    Calls Tryd.prog 13 #[.pointer (some ⟨g, 0, none⟩)] W fun e W' => ∃ v : Int, e = .returned (.int .i64 v) ∧ -9223372036854775808 ≤ v ∧ v ≤ 9223372036854775807 ∧ Src W' g a len cap zs ∧ W.grownBy W' (some g) := by
  have HS : Hid (Src W g a len cap zs) := h
  clear h
  go_enter Tryd.func13, Tryd.ntmps13
  go_wp2_with fail
  refine (one_any W g a len cap zs 4 HS.out (by omega)).mono ?_
  rintro e w1 ⟨b, rfl, hs1, hg1⟩
  have HS1 : Hid (Src w1 g a len cap zs) := hs1
  clear hs1
  cases b
  · go_wp2_with fail
    refine (n_any w1 g a len cap zs 1099511627776 HS1.out (by omega)).mono ?_
    rintro e w2 ⟨v, rfl, hv, hs2, hg2⟩
    have HS2 : Hid (Src w2 g a len cap zs) := hs2
    have hv0 := hv.1
    have hv1 := hv.2.1 (by omega)
    clear hs2 hv
    go_wp2
    go_ret
    exact ⟨_, rfl, by omega, by omega, HS2.out, Lib.grownBy_trans hg1 hg2⟩
  · go_wp2_with fail
    refine (edge_any w1 g a len cap zs HS1.out).mono ?_
    rintro e w2 ⟨v, rfl, hv1, hv2, hs2, hg2⟩
    have HS2 : Hid (Src w2 g a len cap zs) := hs2
    clear hs2
    go_wp2
    go_ret
    exact ⟨_, rfl, hv1, hv2, HS2.out, Lib.grownBy_trans hg1 hg2⟩

set_option maxRecDepth 100000 in
theorem drawPutNum_any (W : World) (a : Option Addr) (len cap : Nat) (zs : List Int) (h : IsRow W a len cap zs) :
    Calls Tryd.prog 4 #[.slice a len cap] W fun e W' => ∃ v : Int, e = .returned (.int .i64 v) ∧ -9223372036854775808 ≤ v ∧ v ≤ 9223372036854775807 ∧ Below W.heap.size W W' := by
  have HIN : Hid (IsRow W a len cap zs) := h
  clear h
  go_enter Tryd.func4, Tryd.ntmps4
  go_wp2_with fail
  refine (source_any W a len cap zs HIN.out).mono ?_
  rintro e w1 ⟨rfl, hs1, hb1⟩
  have HS1 : Hid (Src w1 W.heap.size a len cap zs) := hs1
  clear hs1
  go_wp2_with fail
  refine (any_any w1 W.heap.size a len cap zs HS1.out).mono ?_
  rintro e w2 ⟨v, rfl, hv1, hv2, hs2, hg2⟩
  have hb2 := below_grown hb1 hg2 (Nat.le_refl _)
  clear hs2 hg2 hb1
  go_wp2
  go_ret
  exact ⟨v, rfl, hv1, hv2, hb2⟩

set_option maxRecDepth 100000 in
set_option maxHeartbeats 1000000 in
theorem drawPutText_any (W : World) (a : Option Addr) (len cap : Nat) (zs : List Int) (h : IsRow W a len cap zs) :
    Calls Tryd.prog 8 #[.slice a len cap] W fun e W' => ∃ t : ByteArray, e = .returned (.string t) ∧ t.size ≤ 20004 ∧ Below W.heap.size W W' := by
  have HIN : Hid (IsRow W a len cap zs) := h
  clear h
  go_enter Tryd.func8, Tryd.ntmps8
  go_wp2_with fail
  refine (source_any W a len cap zs HIN.out).mono ?_
  rintro e w1 ⟨rfl, hs1, hb1⟩
  have HS1 : Hid (Src w1 W.heap.size a len cap zs) := hs1
  clear hs1
  go_wp2_with fail
  refine (one_any w1 W.heap.size a len cap zs 8 HS1.out (by omega)).mono ?_
  rintro e w2 ⟨b, rfl, hs2, hg2⟩
  have HS2 : Hid (Src w2 W.heap.size a len cap zs) := hs2
  have hb2 := below_grown hb1 hg2 (Nat.le_refl _)
  clear hs2 hg2 hb1 HS1
  cases b
  · go_wp2_with fail
    refine (n_any w2 W.heap.size a len cap zs 20 HS2.out (by omega)).mono ?_
    rintro e w3 ⟨v, rfl, hv, hs3, hg3⟩
    have HS3 : Hid (Src w3 W.heap.size a len cap zs) := hs3
    have hb3 := below_grown hb2 hg3 (Nat.le_refl _)
    obtain ⟨m, rfl⟩ := Int.eq_ofNat_of_zero_le hv.1
    have hm : (m : Int) < 20 := hv.2.1 (by omega)
    clear hs3 hg3 hb2 HS2 hv
    go_wp2_with fail
    refine (bytes_any w3 W.heap.size a len cap zs m HS3.out (by omega)).mono ?_
    rintro e w4 ⟨t, rfl, ht, hs4, hg4⟩
    have hb4 := below_grown hb3 hg4 (Nat.le_refl _)
    have HT : Hid (t.size = m) := ht
    clear hs4 hg4 hb3 HS3 ht
    go_wp2
    go_ret
    exact ⟨t, rfl, by have := HT.out; omega, hb4⟩
  · go_wp2_with fail
    refine (n_any w2 W.heap.size a len cap zs 3 HS2.out (by omega)).mono ?_
    rintro e w3 ⟨v, rfl, hv, hs3, hg3⟩
    have hb3 := below_grown hb2 hg3 (Nat.le_refl _)
    obtain ⟨m, rfl⟩ := Int.eq_ofNat_of_zero_le hv.1
    have hm : (m : Int) < 3 := hv.2.1 (by omega)
    clear hs3 hg3 hb2 HS2 hv
    obtain ⟨w4, hmk, hrow, hb4, hz4⟩ := make_bytes (P := Tryd.prog) 22 5 under info8 (19999 + m) (by omega) w3
    have hcv := zeros_text w4 w3.heap.size (19999 + m) hrow
    have e1 : ((19999 + m : Nat) : Int) = 19999 + (m : Int) := by omega
    rw [e1] at hmk
    clear hrow hz4 e1
    go_wp2
    go_ret
    exact ⟨_, rfl, (by show (List.replicate (19999 + m) (0 : UInt8)).toArray.size ≤ 20004; simp; omega), bstep hb3 hb4⟩
end Go.Proofs.YtednbehelcfopaaDoor.Draw
