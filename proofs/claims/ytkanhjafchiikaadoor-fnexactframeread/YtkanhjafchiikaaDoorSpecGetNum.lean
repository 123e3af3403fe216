/- What the model's GetNum answers, by contracts. -/
import Derived.Test.YtkanhjafchiikaaDoorRows
import Derived.Test.YtkanhjafchiikaaDoorTextsA
import Derived.Below
namespace Go.Proofs.YtkanhjafchiikaaDoor.GetNum
open Go.RowKit

/-- The answer to what 'rd' says. -/
def outV (r : Nat × Nat × Nat) : Value := if r.1 = 0 then .agg #[.int .i64 (unfoldI r.2.1), .int .i64 (r.2.2 : Nat), .int .i64 0] else .agg #[.int .i64 0, .int .i64 0, .int .i64 (r.1 : Nat)]

theorem outV_code {r : Nat × Nat × Nat} {c : Nat} (h : r = (c, 0, 0)) (hc : c ≠ 0) : outV r = .agg #[.int .i64 0, .int .i64 0, .int .i64 (c : Nat)] := by
  subst h; unfold outV; rw [if_neg hc]

theorem outV_ok {r : Nat × Nat × Nat} {u p : Nat} (h : r = (0, u, p)) : outV r = .agg #[.int .i64 (unfoldI u), .int .i64 (p : Nat), .int .i64 0] := by
  subst h; unfold outV; rw [if_pos rfl]

theorem specGetNum_big (s : ByteArray) (a : Int) (w : World) (hs : 8000 < (s.size : Int)) :
    Calls Tryd.prog 17 #[.string s, .int .i64 a] w fun e w' => e = .returned (.agg #[.int .i64 0, .int .i64 0, .int .i64 2]) ∧ Below w.heap.size w w' := by
  go_enter Tryd.func17, Tryd.ntmps17
  go_wp2
  exact bodyPost_ret (v := .agg #[.int .i64 0, .int .i64 0, .int .i64 2]) (by simp [results, Tryd.results17, go_sem]) rfl ⟨rfl, (Below.refl _ _).alloc (Nat.le_refl _) _⟩

theorem specGetNum_neg (s : ByteArray) (a : Int) (w : World) (hs : (s.size : Int) ≤ 8000) (ha : a < 0) :
    Calls Tryd.prog 17 #[.string s, .int .i64 a] w fun e w' => e = .returned (.agg #[.int .i64 0, .int .i64 0, .int .i64 1]) ∧ Below w.heap.size w w' := by
  go_enter Tryd.func17, Tryd.ntmps17
  go_wp2
  exact bodyPost_ret (v := .agg #[.int .i64 0, .int .i64 0, .int .i64 1]) (by simp [results, Tryd.results17, go_sem]) rfl ⟨rfl, (Below.refl _ _).alloc (Nat.le_refl _) _⟩

theorem agg_num {n m p q : Int} (h1 : n = m) (h2 : p = q) : Value.agg #[.int .i64 n, .int .i64 p, .int .i64 0] = .agg #[.int .i64 m, .int .i64 q, .int .i64 0] := by rw [h1, h2]

set_option maxRecDepth 100000 in
set_option maxHeartbeats 2000000 in
theorem specGetNum_in (s : ByteArray) (a : Nat) (w : World) (hs : (s.size : Int) ≤ 8000) (ha : (a : Int) ≤ 9223372036854775807) :
    Calls Tryd.prog 17 #[.string s, .int .i64 a] w fun e w' => e = .returned (outV (rd s a)) ∧ Below w.heap.size w w' := by
  have hI := inv_start s a
  have HI : Hid (Inv s a 0 0) := hI
  clear hI
  go_enter Tryd.func17, Tryd.ntmps17
  go_wp2
  go_loop [5, 6] (fun u i => ∃ k x : Nat, i = .int .i64 k ∧ u = .int .u64 x ∧ Hid (Inv s a k x)) (fun _ i => 10 - (intOf i).toNat)
  case atStart => exact ⟨0, 0, rfl, rfl, HI⟩
  case round =>
    obtain ⟨k, x, rfl, rfl, HV⟩ := hrel
    clear HI
    have hk := HV.out.1
    by_cases hlt : a + k < s.size
    · have hb := byte_lt s[a + k]
      have ec := at_lt s (a + k) hlt
      have HE : Hid (s[a + k]?.getD 0 = s[a + k]) := ec
      have hlt1 : (a : Int) < (s.size : Int) - (k : Int) := by omega
      clear ec
      by_cases hwd : k = 9 ∧ 1 < s[a + k].toNat
      · have HV2 : Hid (outV (rd s a) = .agg #[.int .i64 0, .int .i64 0, .int .i64 (3 : Nat)]) := outV_code (inv_wide HV.out hlt hwd.1 (by rw [HE.out]; exact hwd.2)) (by decide)
        have h9b : ((k : Int) == 9) = true := beq_iff_eq.2 (by omega)
        have hc1 : (1 : Int) < (s[a + k].toNat : Int) := by omega
        clear hwd
        go_wp2
        refine bodyPost_ret (v := outV (rd s a)) ?_ rfl ⟨rfl, (Below.refl _ _).alloc (Nat.le_refl _) _⟩
        rw [HV2.out]
        simp [results, Tryd.results17, go_sem]
      · obtain ⟨hw1, hw2⟩ := wrap_shift (k := k) (u := x) (c := s[a + k].toNat) hk HV.out.2.1 (fun h => by omega)
        obtain ⟨hz1, hz2⟩ := sum_fits (k := k) (u := x) (x := s[a + k].toNat % 128) hk HV.out.2.1 (Nat.mod_lt _ (by omega)) (fun h => by omega)
        have HY : Hid (∃ z y, z = s[a + k].toNat % 128 * 2 ^ (7 * k) ∧ y = x + z) := ⟨_, _, rfl, rfl⟩
        obtain ⟨z, y, hz, hy⟩ := HY.out
        rw [← hz] at hw1 hw2 hz1 hz2
        rw [← hy] at hw2 hz2
        have HZ : Hid (z = s[a + k].toNat % 128 * 2 ^ (7 * k)) := hz
        have HY2 : Hid (y = x + z) := hy
        have hz1' : (z : Int) ≤ 18446744073709551615 := by omega
        have hz2' : (y : Int) ≤ 18446744073709551615 := by omega
        clear HY hz hy hz1 hz2
        have hg : ((k : Int) == 9) = false ∨ (((k : Int) == 9) = true ∧ ¬ (1 : Int) < (s[a + k].toNat : Int)) := by
          by_cases e : k = 9
          · exact .inr ⟨beq_iff_eq.2 (by omega), by omega⟩
          · exact .inl (beq_eq_false_iff_ne.2 (by omega))
        by_cases hc : (s[a + k].toNat : Int) < 128
        · by_cases hlong : s[a + k].toNat = 0 ∧ 0 < k
          · have HV2 : Hid (outV (rd s a) = .agg #[.int .i64 0, .int .i64 0, .int .i64 (3 : Nat)]) := outV_code (inv_long HV.out hlt hlong.2 (by rw [HE.out]; exact hlong.1)) (by decide)
            have hc0 : ((s[a + k].toNat : Int) == 0) = true := beq_iff_eq.2 (by omega)
            have hk0 : (0 : Int) < (k : Int) := by omega
            clear hlong hwd
            rcases hg with hg | ⟨hg, hg2⟩
            all_goals
              go_wp2
              refine bodyPost_ret (v := outV (rd s a)) ?_ rfl ⟨rfl, (Below.refl _ _).alloc (Nat.le_refl _) _⟩
              rw [HV2.out]
              simp [results, Tryd.results17, go_sem]
          · have hr := inv_done HV.out hlt (by rw [HE.out]; exact hwd) (by rw [HE.out]; omega) (by rw [HE.out]; exact hlong)
            have hm : s[a + k].toNat % 128 = s[a + k].toNat := Nat.mod_eq_of_lt (by omega)
            rw [HE.out, ← hm, ← HZ.out, ← HY2.out] at hr
            have HV2 : Hid (outV (rd s a) = .agg #[.int .i64 (unfoldI y), .int .i64 ((a + k + 1 : Nat) : Int), .int .i64 0]) := outV_ok hr
            clear hr hm hwd
            have hq : ((s[a + k].toNat : Int) == 0) = false ∨ (((s[a + k].toNat : Int) == 0) = true ∧ ¬ (0 : Int) < (k : Int)) := by
              by_cases e : s[a + k].toNat = 0
              · exact .inr ⟨beq_iff_eq.2 (by omega), by omega⟩
              · exact .inl (beq_eq_false_iff_ne.2 (by omega))
            clear hlong
            by_cases hodd : y % 2 = 1
            · have hod : ((y : Int) % 2 == 1) = true := beq_iff_eq.2 (by omega)
              have HO : Hid (-((y : Int) / 2) - 1 = unfoldI y) := unfold_odd hodd
              clear hodd
              rcases hg with hg | ⟨hg, hg2⟩ <;> rcases hq with hq | ⟨hq, hq2⟩
              all_goals
                go_wp2
                refine bodyPost_ret (v := outV (rd s a)) ?_ rfl ⟨rfl, (Below.refl _ _).alloc (Nat.le_refl _) _⟩
                rw [HV2.out, ← HO.out]
                simp [results, Tryd.results17, go_sem]
            · have hod : ((y : Int) % 2 == 1) = false := beq_eq_false_iff_ne.2 (by omega)
              have HO : Hid (((y : Int) / 2) = unfoldI y) := unfold_even hodd
              clear hodd
              rcases hg with hg | ⟨hg, hg2⟩ <;> rcases hq with hq | ⟨hq, hq2⟩
              all_goals
                go_wp2
                refine bodyPost_ret (v := outV (rd s a)) ?_ rfl ⟨rfl, (Below.refl _ _).alloc (Nat.le_refl _) _⟩
                rw [HV2.out, ← HO.out]
                simp [results, Tryd.results17, go_sem]
        · obtain ⟨hk8, hn⟩ := inv_step HV.out hlt (by rw [HE.out]; exact hwd) (by rw [HE.out]; omega)
          have hm : s[a + k].toNat % 128 = s[a + k].toNat - 128 := by omega
          rw [HE.out, ← hm, ← HZ.out, ← HY2.out] at hn
          have HN : Hid (Inv s a (k + 1) y) := hn
          clear hn hm hwd
          have hg9 : ((k : Int) == 9) = false := beq_eq_false_iff_ne.2 (by omega)
          clear hg
          go_wp2
          go_round
          case rel => exact ⟨k + 1, y, by go_num, rfl, HN⟩
          case measure => simp [intOf]; omega
    · have hge : (s.size : Int) - (k : Int) ≤ (a : Int) := by omega
      have HV2 : Hid (outV (rd s a) = .agg #[.int .i64 0, .int .i64 0, .int .i64 (4 : Nat)]) := outV_code (inv_short HV.out (by omega)) (by decide)
      go_wp2
      refine bodyPost_ret (v := outV (rd s a)) ?_ rfl ⟨rfl, (Below.refl _ _).alloc (Nat.le_refl _) _⟩
      rw [HV2.out]
      simp [results, Tryd.results17, go_sem]
end Go.Proofs.YtkanhjafchiikaaDoor.GetNum
