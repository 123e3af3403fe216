/- What is drawn for FnSeal. -/
import Derived.Test.YtednbehelcfopaaSource
import Derived.Test.YtednbehelcfopaaCrc
namespace Go.Proofs.Ytednbehelcfopaa.Draw
open Go.RowKit Go.Proofs.Ytednbehelcfopaa.Mem

set_option maxRecDepth 100000 in
set_option maxHeartbeats 1000000 in
theorem drawSeal_any (W : World) (a : Option Addr) (len cap : Nat) (zs : List Int) (h : IsRow W a len cap zs) :
    Calls Try.prog 4 #[.slice a len cap] W fun e W' => ∃ t : ByteArray, e = .returned (.string t) ∧ t.size ≤ 20000 ∧ Below W.heap.size W W' := by
  have HIN : Hid (IsRow W a len cap zs) := h
  clear h
  go_enter Try.func4, Try.ntmps4
  go_wp2_with fail
  refine (source_any W a len cap zs HIN.out).mono ?_
  rintro e w1 ⟨rfl, hs1, hb1⟩
  have HS1 : Hid (Src w1 W.heap.size a len cap zs) := hs1
  clear hs1
  go_wp2_with fail
  refine (one_any w1 W.heap.size a len cap zs 30 HS1.out (by omega)).mono ?_
  rintro e w2 ⟨b, rfl, hs2, hg2⟩
  have HS2 : Hid (Src w2 W.heap.size a len cap zs) := hs2
  have hb2 := below_grown hb1 hg2 (Nat.le_refl _)
  clear hs2 hg2 hb1 HS1
  cases b
  · go_wp2_with fail
    refine (n_any w2 W.heap.size a len cap zs 20 HS2.out (by omega)).mono ?_
    rintro e w3 ⟨v, rfl, hv, hs3, hg3⟩
    have HS3 : Hid (Src w3 W.heap.size a len cap zs) := hs3
    have hb3 := below_grown hb2 hg3 (Nat.le_refl _)
    obtain ⟨m, rfl⟩ := Int.eq_ofNat_of_zero_le hv.1
    have hm : (m : Int) < 20 := hv.2.1 (by omega)
    clear hs3 hg3 hb2 HS2 hv
    go_wp2_with fail
    refine (bytes_any w3 W.heap.size a len cap zs m HS3.out (by omega)).mono ?_
    rintro e w4 ⟨t, rfl, ht, hs4, hg4⟩
    have hb4 := below_grown hb3 hg4 (Nat.le_refl _)
    have HT : Hid (t.size = m) := ht
    clear hs4 hg4 hb3 HS3 ht
    go_wp2
    go_ret
    exact ⟨t, rfl, by have := HT.out; omega, hb4⟩
  · go_wp2_with fail
    refine (n_any w2 W.heap.size a len cap zs 3 HS2.out (by omega)).mono ?_
    rintro e w3 ⟨v, rfl, hv, hs3, hg3⟩
    have hb3 := below_grown hb2 hg3 (Nat.le_refl _)
    obtain ⟨m, rfl⟩ := Int.eq_ofNat_of_zero_le hv.1
    have hm : (m : Int) < 3 := hv.2.1 (by omega)
    clear hs3 hg3 hb2 HS2 hv
    obtain ⟨w4, hmk, hrow, hb4, hz4⟩ := make_bytes (P := Try.prog) 22 5 under info8 (19995 + m) (by omega) w3
    have hcv := zeros_text w4 w3.heap.size (19995 + m) hrow
    have e1 : ((19995 + m : Nat) : Int) = 19995 + (m : Int) := by omega
    rw [e1] at hmk
    clear hrow hz4 e1
    go_wp2
    go_ret
    exact ⟨_, rfl, (by show (List.replicate (19995 + m) (0 : UInt8)).toArray.size ≤ 20000; simp; omega), bstep hb3 hb4⟩

set_option maxRecDepth 100000 in
set_option maxHeartbeats 1000000 in
theorem drawCrcMore_any (W : World) (a : Option Addr) (len cap : Nat) (zs : List Int) (h : IsRow W a len cap zs) :
    Calls Try.prog 9 #[.slice a len cap] W fun e W' => ∃ (c : Int) (t : ByteArray), e = .returned (.tuple #[.int .i64 c, .string t]) ∧ -9223372036854775808 ≤ c ∧ c ≤ 9223372036854775807 ∧ t.size ≤ 9 ∧ Below W.heap.size W W' := by
  have HIN : Hid (IsRow W a len cap zs) := h
  clear h
  go_enter Try.func9, Try.ntmps9
  go_wp2_with fail
  refine (source_any W a len cap zs HIN.out).mono ?_
  rintro e w1 ⟨rfl, hs1, hb1⟩
  have HS1 : Hid (Src w1 W.heap.size a len cap zs) := hs1
  clear hs1
  go_wp2_with fail
  refine (n_any w1 W.heap.size a len cap zs 9 HS1.out (by omega)).mono ?_
  rintro e w2 ⟨v, rfl, hv, hs2, hg2⟩
  have HS2 : Hid (Src w2 W.heap.size a len cap zs) := hs2
  have hb2 := below_grown hb1 hg2 (Nat.le_refl _)
  obtain ⟨m, rfl⟩ := Int.eq_ofNat_of_zero_le hv.1
  have hm : (m : Int) < 9 := hv.2.1 (by omega)
  clear hs2 hg2 hb1 HS1 hv
  go_wp2_with fail
  refine (bytes_any w2 W.heap.size a len cap zs m HS2.out (by omega)).mono ?_
  rintro e w3 ⟨t, rfl, ht, hs3, hg3⟩
  have HS3 : Hid (Src w3 W.heap.size a len cap zs) := hs3
  have hb3 := below_grown hb2 hg3 (Nat.le_refl _)
  have HT : Hid (t.size ≤ 9) := by show _ ≤ _; omega
  clear hs3 hg3 hb2 HS2 ht
  go_wp2_with fail
  refine (one_any w3 W.heap.size a len cap zs 5 HS3.out (by omega)).mono ?_
  rintro e w4 ⟨b, rfl, hs4, hg4⟩
  have HS4 : Hid (Src w4 W.heap.size a len cap zs) := hs4
  have hb4 := below_grown hb3 hg4 (Nat.le_refl _)
  clear hs4 hg4 hb3 HS3
  cases b
  · go_wp2_with fail
    refine (n_any w4 W.heap.size a len cap zs 9 HS4.out (by omega)).mono ?_
    rintro e w5 ⟨v, rfl, hv, hs5, hg5⟩
    have HS5 : Hid (Src w5 W.heap.size a len cap zs) := hs5
    have hb5 := below_grown hb4 hg5 (Nat.le_refl _)
    obtain ⟨m2, rfl⟩ := Int.eq_ofNat_of_zero_le hv.1
    have hm2 : (m2 : Int) < 9 := hv.2.1 (by omega)
    clear hs5 hg5 hb4 HS4 hv
    go_wp2_with fail
    refine (bytes_any w5 W.heap.size a len cap zs m2 HS5.out (by omega)).mono ?_
    rintro e w6 ⟨t2, rfl, ht2, hs6, hg6⟩
    have hb6 := below_grown hb5 hg6 (Nat.le_refl _)
    have HT2 : Hid (t2.size = m2) := ht2
    have ht9 : (t2.size : Int) ≤ 8 := by omega
    have HC : Hid (∀ w, Calls Try.prog 20 #[.int .i64 0, .string t2] w fun e w' => e = .returned (.int .i64 (Crc.crcOf 0 t2 : Nat)) ∧ w' = w) := fun w => Crc.l01Crc_in 0 t2 w (by omega) (by omega)
    have HL : Hid (Crc.crcOf 0 t2 < 4294967296) := Crc.crcOf_lt (by omega) t2
    clear hs6 hg6 hb5 HS5 ht2
    go_wp2_with (first | (go_at_call 20; refine (HC.out _).mono ?_; rintro e w7 ⟨rfl, rfl⟩) | go_in)
    go_ret2
    exact ⟨_, t, rfl, by omega, by have := HL.out; omega, HT.out, hb6⟩
  · go_wp2_with fail
    refine (edge_any w4 W.heap.size a len cap zs HS4.out).mono ?_
    rintro e w5 ⟨v, rfl, hv1, hv2, hs5, hg5⟩
    have hb5 := below_grown hb4 hg5 (Nat.le_refl _)
    clear hs5 hg5 hb4 HS4
    go_wp2
    go_ret2
    exact ⟨v, t, rfl, hv1, hv2, HT.out, hb5⟩

set_option maxRecDepth 100000 in
set_option maxHeartbeats 1000000 in
theorem lwAt_any (W : World) (a : Option Addr) (len cap : Nat) (zs : List Int) (k' : Int) (most : Int) (h : IsRow W a len cap zs) (hk0 : 0 ≤ k') (hk : k' ≤ 1000) (hm : 2 ≤ most) (hm2 : most ≤ 1000000000) :
    Calls Try.prog 7 #[.slice a len cap, .int .i64 k', .int .i64 most] W fun e W' => ∃ v : Int, e = .returned (.int .i64 v) ∧ 0 ≤ v ∧ v < most ∧ W = W' := by
  obtain ⟨k, rfl⟩ := Int.eq_ofNat_of_zero_le hk0
  have hl := row_len h
  unfold maxLen at hl
  by_cases h0 : len = 0
  · subst h0
    clear h
    go_enter Try.func7, Try.ntmps7
    go_wp2
    go_ret
    exact ⟨0, rfl, by omega, by omega, rfl⟩
  · obtain ⟨b, off, rfl, hcell, hz0, hz1⟩ := row_at h (Nat.mod_lt k (by omega : 0 < len))
    have hn0 : ((len : Int) == 0) = false := beq_eq_false_iff_ne.2 (by omega)
    have hlt : k % len < len := Nat.mod_lt k (by omega)
    clear h
    generalize zs.getD (k % len) 0 = zv at *
    go_enter Try.func7, Try.ntmps7
    go_wp2
    go_ret
    exact ⟨zv % most, rfl, Int.emod_nonneg _ (by omega), Int.emod_lt_of_pos _ (by omega), rfl⟩
end Go.Proofs.Ytednbehelcfopaa.Draw
