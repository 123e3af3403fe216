/- Laws that the proof rests on, put together: How a number is read from its bytes, as a function of numbers. What the model's GetNum answers, by contracts. A scope in which the run jumps to several labels: what holds at every jump, and a measure that every pass from a label lowers. What the program's readNum answers, by contracts. What errors.As answers where the error is a readFault and the target a variable of that type; and codeOf by it. What the program's GetNum answers, by contracts. The two GetNum functions give one answer. Words on GetText's answers. What the model's GetText answers, given what its GetNum does. What the program's GetText answers, given what its GetNum does. The two GetText functions give one answer. Seven numbers and a text read one behind the other. Numbers come back from their bytes; of bytes that end too early nothing comes. A tree read from a text: what both sides read, as functions of the text. What the model's reader of numbers answers. The reader's text, with the place behind it; and how many. -/
import Derived.WalkKit
import Derived.Laws.BitsAllLaws
import Derived.Test.YtjgkekgieodhnaaDoorRows
import Derived.Below
import Derived.ScopeJumps
import Derived.WalkMore
import Derived.WalkLawsBesides
import Derived.RegionTactic
import Derived.LaidEql
import Derived.Stop.Asserts
import Derived.Lib.ReflectliteSlice
import Derived.RowKitTokens
import Derived.BigRegion
import Derived.WalkSpells
import Derived.Test.YtjgkekgieodhnaaDoorTextsB
import Derived.Test.YtjgkekgieodhnaaDoorTextsC
import Derived.Test.YtjgkekgieodhnaaDoorTextsA
import Derived.Test.YtjgkekgieodhnaaDoorTreeTexts
import Derived.Deep.RegionHeld3
import Derived.Deep.RegionWith
import Derived.Deep.DeepCutAuto
/- How a number is read from its bytes, as a function of numbers. -/
namespace Go.Proofs.YtjgkekgieodhnaaDoor.GetNum
open Go.RowKit

/-- From round k on, u gathered so far: the code, the number ahead of unfolding, the place behind it. -/
def rdK (s : ByteArray) (p : Nat) : Nat → Nat → Nat → Nat × Nat × Nat
  | 0, _, _ => (3, 0, 0)
  | f + 1, k, u =>
    if s.size ≤ p + k then (4, 0, 0)
    else if k = 9 ∧ 1 < (s[p + k]?.getD 0).toNat then (3, 0, 0)
    else if (s[p + k]?.getD 0).toNat < 128 then
      if (s[p + k]?.getD 0).toNat = 0 ∧ 0 < k then (3, 0, 0) else (0, u + (s[p + k]?.getD 0).toNat * 2 ^ (7 * k), p + k + 1)
    else rdK s p f (k + 1) (u + ((s[p + k]?.getD 0).toNat - 128) * 2 ^ (7 * k))

def rd (s : ByteArray) (p : Nat) : Nat × Nat × Nat := rdK s p 10 0 0

/-- What holds at a round's head. -/
def Inv (s : ByteArray) (p k u : Nat) : Prop := k ≤ 9 ∧ u < 2 ^ (7 * k) ∧ rdK s p (10 - k) k u = rd s p

theorem inv_start (s : ByteArray) (p : Nat) : Inv s p 0 0 := ⟨by omega, by decide, rfl⟩

theorem inv_short {s : ByteArray} {p k u : Nat} (h : Inv s p k u) (hs : s.size ≤ p + k) : rd s p = (4, 0, 0) := by
  obtain ⟨h1, _, h3⟩ := h
  rw [← h3, show 10 - k = (9 - k) + 1 by omega, rdK, if_pos hs]

theorem inv_wide {s : ByteArray} {p k u : Nat} (h : Inv s p k u) (hs : p + k < s.size) (hk : k = 9) (hc : 1 < (s[p + k]?.getD 0).toNat) : rd s p = (3, 0, 0) := by
  obtain ⟨h1, _, h3⟩ := h
  rw [← h3, show 10 - k = (9 - k) + 1 by omega, rdK, if_neg (by omega), if_pos ⟨hk, hc⟩]

theorem inv_long {s : ByteArray} {p k u : Nat} (h : Inv s p k u) (hs : p + k < s.size) (hk : 0 < k) (hc : (s[p + k]?.getD 0).toNat = 0) : rd s p = (3, 0, 0) := by
  obtain ⟨h1, _, h3⟩ := h
  rw [← h3, show 10 - k = (9 - k) + 1 by omega, rdK, if_neg (by omega), if_neg (by omega), if_pos (by omega), if_pos ⟨hc, hk⟩]

theorem inv_done {s : ByteArray} {p k u : Nat} (h : Inv s p k u) (hs : p + k < s.size) (h9 : ¬ (k = 9 ∧ 1 < (s[p + k]?.getD 0).toNat)) (hc : (s[p + k]?.getD 0).toNat < 128) (h0 : ¬ ((s[p + k]?.getD 0).toNat = 0 ∧ 0 < k)) :
    rd s p = (0, u + (s[p + k]?.getD 0).toNat * 2 ^ (7 * k), p + k + 1) := by
  obtain ⟨h1, _, h3⟩ := h
  rw [← h3, show 10 - k = (9 - k) + 1 by omega, rdK, if_neg (by omega), if_neg h9, if_pos hc, if_neg h0]

theorem byte_lt (c : UInt8) : c.toNat < 256 := c.toNat_lt

theorem inv_step {s : ByteArray} {p k u : Nat} (h : Inv s p k u) (hs : p + k < s.size) (h9 : ¬ (k = 9 ∧ 1 < (s[p + k]?.getD 0).toNat)) (hc : 128 ≤ (s[p + k]?.getD 0).toNat) : k ≤ 8 ∧ Inv s p (k + 1) (u + ((s[p + k]?.getD 0).toNat - 128) * 2 ^ (7 * k)) := by
  obtain ⟨h1, h2, h3⟩ := h
  have hk : k ≤ 8 := by
    rcases Nat.lt_or_ge k 9 with g | g
    · omega
    · exact absurd ⟨by omega, by omega⟩ h9
  have hb := byte_lt (s[p + k]?.getD 0)
  refine ⟨hk, by omega, ?_, ?_⟩
  · generalize (s[p + k]?.getD 0).toNat = c at *
    have e : 2 ^ (7 * (k + 1)) = 128 * 2 ^ (7 * k) := by rw [Nat.mul_add, Nat.pow_add, Nat.mul_comm]
    rw [e]
    have : (c - 128) * 2 ^ (7 * k) ≤ 127 * 2 ^ (7 * k) := Nat.mul_le_mul_right _ (by omega)
    omega
  · rw [← h3, show 10 - k = (9 - k) + 1 by omega, rdK, if_neg (by omega), if_neg h9, if_neg (by omega), show 10 - (k + 1) = 9 - k by omega]

theorem pow_le {k : Nat} (h : k ≤ 8) : 2 ^ (7 * k) ≤ 72057594037927936 := by
  have : 2 ^ (7 * k) ≤ 2 ^ 56 := Nat.pow_le_pow_right (by omega) (by omega)
  simpa using this

/-- Of the bits of a byte, shifted: they fit where k is at most 8. -/
theorem shift_fits {k x : Nat} (h : k ≤ 8) (hx : x < 128) : x * 2 ^ (7 * k) < 9223372036854775808 := by
  have h1 := pow_le h
  have h2 : x * 2 ^ (7 * k) ≤ 127 * 2 ^ (7 * k) := Nat.mul_le_mul_right _ (by omega)
  omega

theorem shift_fits9 {x : Nat} (hx : x ≤ 1) : x * 2 ^ (7 * 9) < 18446744073709551616 := by
  have h2 : x * 2 ^ (7 * 9) ≤ 1 * 2 ^ (7 * 9) := Nat.mul_le_mul_right _ hx
  omega

theorem sum_fits {k u x : Nat} (h : k ≤ 9) (hu : u < 2 ^ (7 * k)) (hx : x < 128) (h9 : k = 9 → x ≤ 1) : x * 2 ^ (7 * k) < 18446744073709551616 ∧ u + x * 2 ^ (7 * k) < 18446744073709551616 := by
  rcases Nat.lt_or_ge k 9 with g | g
  · have h1 := shift_fits (k := k) (x := x) (by omega) hx
    have h2 := pow_le (k := k) (by omega)
    omega
  · obtain rfl : k = 9 := by omega
    have h1 : x * 2 ^ (7 * 9) ≤ 1 * 2 ^ (7 * 9) := Nat.mul_le_mul_right _ (h9 rfl)
    have h2 : 2 ^ (7 * 9) = 9223372036854775808 := by decide
    omega

theorem or_eq_add {k u x : Nat} (hu : u < 2 ^ (7 * k)) : u ||| x * 2 ^ (7 * k) = u + x * 2 ^ (7 * k) := by
  rw [Nat.or_comm, Nat.mul_comm, ← Nat.two_pow_add_eq_or_of_lt hu, Nat.add_comm]

def unfoldI (u : Nat) : Int := if u % 2 = 1 then -((u / 2 : Nat) : Int) - 1 else ((u / 2 : Nat) : Int)

theorem unfold_bd {u : Nat} (h : u < 18446744073709551616) : -9223372036854775808 ≤ unfoldI u ∧ unfoldI u ≤ 9223372036854775807 := by
  unfold unfoldI; split <;> omega

theorem rdK_cases (s : ByteArray) (p : Nat) : ∀ f k u, k + f = 10 → u < 2 ^ (7 * k) →
    (∃ y q, rdK s p f k u = (0, y, q) ∧ y < 18446744073709551616 ∧ q ≤ s.size) ∨ rdK s p f k u = (3, 0, 0) ∨ rdK s p f k u = (4, 0, 0)
  | 0, _, _, _, _ => .inr (.inl rfl)
  | f + 1, k, u, hk, hu => by
    rw [rdK]
    split
    · exact .inr (.inr rfl)
    · rename_i hlt
      split
      · exact .inr (.inl rfl)
      · rename_i h9
        have hb := byte_lt (s[p + k]?.getD 0)
        split
        · rename_i hc
          split
          · exact .inr (.inl rfl)
          · exact .inl ⟨_, _, rfl, (sum_fits (by omega) hu hc (fun e => by omega)).2, by omega⟩
        · rename_i hc
          refine rdK_cases s p f (k + 1) _ (by omega) ?_
          generalize (s[p + k]?.getD 0).toNat = c at *
          have e : 2 ^ (7 * (k + 1)) = 128 * 2 ^ (7 * k) := by rw [Nat.mul_add, Nat.pow_add, Nat.mul_comm]
          rw [e]
          have : (c - 128) * 2 ^ (7 * k) ≤ 127 * 2 ^ (7 * k) := Nat.mul_le_mul_right _ (by omega)
          omega

theorem rd_cases (s : ByteArray) (p : Nat) : (∃ y q, rd s p = (0, y, q) ∧ y < 18446744073709551616 ∧ q ≤ s.size) ∨ rd s p = (3, 0, 0) ∨ rd s p = (4, 0, 0) :=
  rdK_cases s p 10 0 0 rfl (by decide)
theorem at_lt (s : ByteArray) (k : Nat) (h : k < s.size) : s[k]?.getD 0 = s[k] := by simp [h]

theorem wrap_shift {k u c : Nat} (h : k ≤ 9) (hu : u < 2 ^ (7 * k)) (h9 : k = 9 → c % 128 ≤ 1) :
    IntKind.u64.wrap ((c : Int) % 128 * 2 ^ (7 * k)) = ((c % 128 * 2 ^ (7 * k) : Nat) : Int) ∧ IntKind.u64.wrap ((u : Int) + ((c % 128 * 2 ^ (7 * k) : Nat) : Int)) = ((u + c % 128 * 2 ^ (7 * k) : Nat) : Int) := by
  obtain ⟨h1, h2⟩ := sum_fits (x := c % 128) h hu (Nat.mod_lt _ (by omega)) h9
  have e : (c : Int) % 128 * 2 ^ (7 * k) = ((c % 128 * 2 ^ (7 * k) : Nat) : Int) := by simp
  rw [e]
  generalize c % 128 * 2 ^ (7 * k) = z at *
  exact ⟨IntWalk.u64_in _ ⟨by omega, by omega⟩, by rw [IntWalk.u64_in _ ⟨by omega, by omega⟩]; omega⟩

theorem unfold_odd {y : Nat} (h : y % 2 = 1) : -((y : Int) / 2) - 1 = unfoldI y := by
  unfold unfoldI; rw [if_pos h]; omega
theorem unfold_even {y : Nat} (h : ¬ y % 2 = 1) : ((y : Int) / 2) = unfoldI y := by
  unfold unfoldI; rw [if_neg h]; omega

end Go.Proofs.YtjgkekgieodhnaaDoor.GetNum

/- What the model's GetNum answers, by contracts. -/
namespace Go.Proofs.YtjgkekgieodhnaaDoor.GetNum
open Go.RowKit

/-- The answer to what 'rd' says. -/
def outV (r : Nat × Nat × Nat) : Value := if r.1 = 0 then .agg #[.int .i64 (unfoldI r.2.1), .int .i64 (r.2.2 : Nat), .int .i64 0] else .agg #[.int .i64 0, .int .i64 0, .int .i64 (r.1 : Nat)]

theorem outV_code {r : Nat × Nat × Nat} {c : Nat} (h : r = (c, 0, 0)) (hc : c ≠ 0) : outV r = .agg #[.int .i64 0, .int .i64 0, .int .i64 (c : Nat)] := by
  subst h; unfold outV; rw [if_neg hc]

theorem outV_ok {r : Nat × Nat × Nat} {u p : Nat} (h : r = (0, u, p)) : outV r = .agg #[.int .i64 (unfoldI u), .int .i64 (p : Nat), .int .i64 0] := by
  subst h; unfold outV; rw [if_pos rfl]

theorem specGetNum_big (s : ByteArray) (a : Int) (w : World) (hs : 8000 < (s.size : Int)) :
    Calls Tryd.prog 22 #[.string s, .int .i64 a] w fun e w' => e = .returned (.agg #[.int .i64 0, .int .i64 0, .int .i64 2]) ∧ Below w.heap.size w w' := by
  go_enter Tryd.func22, Tryd.ntmps22
  go_wp2
  exact bodyPost_ret (v := .agg #[.int .i64 0, .int .i64 0, .int .i64 2]) (by simp [results, Tryd.results22, go_sem]) rfl ⟨rfl, (Below.refl _ _).alloc (Nat.le_refl _) _⟩

theorem specGetNum_neg (s : ByteArray) (a : Int) (w : World) (hs : (s.size : Int) ≤ 8000) (ha : a < 0) :
    Calls Tryd.prog 22 #[.string s, .int .i64 a] w fun e w' => e = .returned (.agg #[.int .i64 0, .int .i64 0, .int .i64 1]) ∧ Below w.heap.size w w' := by
  go_enter Tryd.func22, Tryd.ntmps22
  go_wp2
  exact bodyPost_ret (v := .agg #[.int .i64 0, .int .i64 0, .int .i64 1]) (by simp [results, Tryd.results22, go_sem]) rfl ⟨rfl, (Below.refl _ _).alloc (Nat.le_refl _) _⟩

theorem agg_num {n m p q : Int} (h1 : n = m) (h2 : p = q) : Value.agg #[.int .i64 n, .int .i64 p, .int .i64 0] = .agg #[.int .i64 m, .int .i64 q, .int .i64 0] := by rw [h1, h2]

set_option maxRecDepth 100000 in
set_option maxHeartbeats 2000000 in
theorem specGetNum_in (s : ByteArray) (a : Nat) (w : World) (hs : (s.size : Int) ≤ 8000) (ha : (a : Int) ≤ 9223372036854775807) :
    Calls Tryd.prog 22 #[.string s, .int .i64 a] w fun e w' => e = .returned (outV (rd s a)) ∧ Below w.heap.size w w' := by
  have hI := inv_start s a
  have HI : Hid (Inv s a 0 0) := hI
  clear hI
  go_enter Tryd.func22, Tryd.ntmps22
  go_wp2
  go_loop [5, 6] (fun u i => ∃ k x : Nat, i = .int .i64 k ∧ u = .int .u64 x ∧ Hid (Inv s a k x)) (fun _ i => 10 - (intOf i).toNat)
  case atStart => exact ⟨0, 0, rfl, rfl, HI⟩
  case round =>
    obtain ⟨k, x, rfl, rfl, HV⟩ := hrel
    clear HI
    have hk := HV.out.1
    by_cases hlt : a + k < s.size
    · have hb := byte_lt s[a + k]
      have ec := at_lt s (a + k) hlt
      have HE : Hid (s[a + k]?.getD 0 = s[a + k]) := ec
      have hlt1 : (a : Int) < (s.size : Int) - (k : Int) := by omega
      clear ec
      by_cases hwd : k = 9 ∧ 1 < s[a + k].toNat
      · have HV2 : Hid (outV (rd s a) = .agg #[.int .i64 0, .int .i64 0, .int .i64 (3 : Nat)]) := outV_code (inv_wide HV.out hlt hwd.1 (by rw [HE.out]; exact hwd.2)) (by decide)
        have h9b : ((k : Int) == 9) = true := beq_iff_eq.2 (by omega)
        have hc1 : (1 : Int) < (s[a + k].toNat : Int) := by omega
        clear hwd
        go_wp2
        refine bodyPost_ret (v := outV (rd s a)) ?_ rfl ⟨rfl, (Below.refl _ _).alloc (Nat.le_refl _) _⟩
        rw [HV2.out]
        simp [results, Tryd.results22, go_sem]
      · obtain ⟨hw1, hw2⟩ := wrap_shift (k := k) (u := x) (c := s[a + k].toNat) hk HV.out.2.1 (fun h => by omega)
        obtain ⟨hz1, hz2⟩ := sum_fits (k := k) (u := x) (x := s[a + k].toNat % 128) hk HV.out.2.1 (Nat.mod_lt _ (by omega)) (fun h => by omega)
        have HY : Hid (∃ z y, z = s[a + k].toNat % 128 * 2 ^ (7 * k) ∧ y = x + z) := ⟨_, _, rfl, rfl⟩
        obtain ⟨z, y, hz, hy⟩ := HY.out
        rw [← hz] at hw1 hw2 hz1 hz2
        rw [← hy] at hw2 hz2
        have HZ : Hid (z = s[a + k].toNat % 128 * 2 ^ (7 * k)) := hz
        have HY2 : Hid (y = x + z) := hy
        have hz1' : (z : Int) ≤ 18446744073709551615 := by omega
        have hz2' : (y : Int) ≤ 18446744073709551615 := by omega
        clear HY hz hy hz1 hz2
        have hg : ((k : Int) == 9) = false ∨ (((k : Int) == 9) = true ∧ ¬ (1 : Int) < (s[a + k].toNat : Int)) := by
          by_cases e : k = 9
          · exact .inr ⟨beq_iff_eq.2 (by omega), by omega⟩
          · exact .inl (beq_eq_false_iff_ne.2 (by omega))
        by_cases hc : (s[a + k].toNat : Int) < 128
        · by_cases hlong : s[a + k].toNat = 0 ∧ 0 < k
          · have HV2 : Hid (outV (rd s a) = .agg #[.int .i64 0, .int .i64 0, .int .i64 (3 : Nat)]) := outV_code (inv_long HV.out hlt hlong.2 (by rw [HE.out]; exact hlong.1)) (by decide)
            have hc0 : ((s[a + k].toNat : Int) == 0) = true := beq_iff_eq.2 (by omega)
            have hk0 : (0 : Int) < (k : Int) := by omega
            clear hlong hwd
            rcases hg with hg | ⟨hg, hg2⟩
            all_goals
              go_wp2
              refine bodyPost_ret (v := outV (rd s a)) ?_ rfl ⟨rfl, (Below.refl _ _).alloc (Nat.le_refl _) _⟩
              rw [HV2.out]
              simp [results, Tryd.results22, go_sem]
          · have hr := inv_done HV.out hlt (by rw [HE.out]; exact hwd) (by rw [HE.out]; omega) (by rw [HE.out]; exact hlong)
            have hm : s[a + k].toNat % 128 = s[a + k].toNat := Nat.mod_eq_of_lt (by omega)
            rw [HE.out, ← hm, ← HZ.out, ← HY2.out] at hr
            have HV2 : Hid (outV (rd s a) = .agg #[.int .i64 (unfoldI y), .int .i64 ((a + k + 1 : Nat) : Int), .int .i64 0]) := outV_ok hr
            clear hr hm hwd
            have hq : ((s[a + k].toNat : Int) == 0) = false ∨ (((s[a + k].toNat : Int) == 0) = true ∧ ¬ (0 : Int) < (k : Int)) := by
              by_cases e : s[a + k].toNat = 0
              · exact .inr ⟨beq_iff_eq.2 (by omega), by omega⟩
              · exact .inl (beq_eq_false_iff_ne.2 (by omega))
            clear hlong
            by_cases hodd : y % 2 = 1
            · have hod : ((y : Int) % 2 == 1) = true := beq_iff_eq.2 (by omega)
              have HO : Hid (-((y : Int) / 2) - 1 = unfoldI y) := unfold_odd hodd
              clear hodd
              rcases hg with hg | ⟨hg, hg2⟩ <;> rcases hq with hq | ⟨hq, hq2⟩
              all_goals
                go_wp2
                refine bodyPost_ret (v := outV (rd s a)) ?_ rfl ⟨rfl, (Below.refl _ _).alloc (Nat.le_refl _) _⟩
                rw [HV2.out, ← HO.out]
                simp [results, Tryd.results22, go_sem]
            · have hod : ((y : Int) % 2 == 1) = false := beq_eq_false_iff_ne.2 (by omega)
              have HO : Hid (((y : Int) / 2) = unfoldI y) := unfold_even hodd
              clear hodd
              rcases hg with hg | ⟨hg, hg2⟩ <;> rcases hq with hq | ⟨hq, hq2⟩
              all_goals
                go_wp2
                refine bodyPost_ret (v := outV (rd s a)) ?_ rfl ⟨rfl, (Below.refl _ _).alloc (Nat.le_refl _) _⟩
                rw [HV2.out, ← HO.out]
                simp [results, Tryd.results22, go_sem]
        · obtain ⟨hk8, hn⟩ := inv_step HV.out hlt (by rw [HE.out]; exact hwd) (by rw [HE.out]; omega)
          have hm : s[a + k].toNat % 128 = s[a + k].toNat - 128 := by omega
          rw [HE.out, ← hm, ← HZ.out, ← HY2.out] at hn
          have HN : Hid (Inv s a (k + 1) y) := hn
          clear hn hm hwd
          have hg9 : ((k : Int) == 9) = false := beq_eq_false_iff_ne.2 (by omega)
          clear hg
          go_wp2
          go_round
          case rel => exact ⟨k + 1, y, by go_num, rfl, HN⟩
          case measure => simp [intOf]; omega
    · have hge : (s.size : Int) - (k : Int) ≤ (a : Int) := by omega
      have HV2 : Hid (outV (rd s a) = .agg #[.int .i64 0, .int .i64 0, .int .i64 (4 : Nat)]) := outV_code (inv_short HV.out (by omega)) (by decide)
      go_wp2
      refine bodyPost_ret (v := outV (rd s a)) ?_ rfl ⟨rfl, (Below.refl _ _).alloc (Nat.le_refl _) _⟩
      rw [HV2.out]
      simp [results, Tryd.results22, go_sem]
end Go.Proofs.YtjgkekgieodhnaaDoor.GetNum

/- A scope in which the run jumps to several labels: what holds at every jump, and a measure that every pass from a label lowers. -/
namespace Go.Proofs.YtjgkekgieodhnaaDoor.Scope

/-- As Q; by a goto to label l: what J says of l. -/
def jumpN (J : Nat → Act → World → Prop) (Q : Exit → Act → World → Prop) : Exit → Act → World → Prop
  | .goto l, a, w => J l a w
  | e, a, w => Q e a w

theorem wp_scope_many {P : Program} {a : Act} {w : World} {Q : Exit → Act → World → Prop} {c : Code} (J : Nat → Act → World → Prop) (μ : Nat → Act → World → Nat) (rest : Nat → Code)
    (hf : ∀ l a w, J l a w → findLabel c l = some (rest l)) (first : c.wp P (jumpN J Q) a w)
    (pass : ∀ l a w, J l a w → (rest l).wp P (jumpN (fun l' a' w' => J l' a' w' ∧ μ l' a' w' < μ l a w) Q) a w) : (Code.scope c).wp P Q a w := by
  intro b k cs
  have key : ∀ n l a w, μ l a w = n → J l a w → ∃ e a' w', Q e a' w' ∧ Arrives P (lone (b.at a (.code (rest l) :: .inScope c :: k)) cs w) b k cs e a' w' := by
    intro n
    induction n using Nat.strongRecOn with
    | _ n ih =>
      intro l a w hn hJ
      obtain ⟨e, a₁, w₁, hq, harr⟩ := pass l a w hJ b (.inScope c :: k) cs
      cases e with
      | normal => exact ⟨.normal, a₁, w₁, hq, Steps.trans harr (.one step_inScope)⟩
      | exit id => exact ⟨.exit id, a₁, w₁, hq, fun k' hk => harr k' (by simp [exitTo, hk])⟩
      | goto l' =>
        obtain ⟨hJ', hlt⟩ := hq
        have hg : gotoIn l' (.inScope c :: k) = some (.code (rest l') :: .inScope c :: k) := by simp [gotoIn, hf l' a₁ w₁ hJ']
        obtain ⟨e₂, a₂, w₂, hq₂, harr₂⟩ := ih _ (by omega) l' a₁ w₁ rfl hJ'
        exact ⟨e₂, a₂, w₂, hq₂, .of_steps (harr _ hg) harr₂⟩
      | ret => exact ⟨_, a₁, w₁, hq, harr⟩
      | panic ch => exact ⟨_, a₁, w₁, hq, harr⟩
      | outgrown => exact ⟨_, a₁, w₁, hq, harr⟩
  obtain ⟨e, a₁, w₁, hq, harr⟩ := first b (.inScope c :: k) cs
  cases e with
  | normal => exact ⟨.normal, a₁, w₁, hq, .head step_scope (Steps.trans harr (.one step_inScope))⟩
  | exit id => exact ⟨.exit id, a₁, w₁, hq, fun k' hk => .head step_scope (harr k' (by simp [exitTo, hk]))⟩
  | goto l' =>
    have hJ' : J l' a₁ w₁ := hq
    have hg : gotoIn l' (.inScope c :: k) = some (.code (rest l') :: .inScope c :: k) := by simp [gotoIn, hf l' a₁ w₁ hJ']
    obtain ⟨e₂, a₂, w₂, hq₂, harr₂⟩ := key _ l' a₁ w₁ rfl hJ'
    exact ⟨e₂, a₂, w₂, hq₂, .of_steps (.head step_scope (harr _ hg)) harr₂⟩
  | ret => exact ⟨_, a₁, w₁, hq, .of_steps (.one step_scope) harr⟩
  | panic ch => exact ⟨_, a₁, w₁, hq, .of_steps (.one step_scope) harr⟩
  | outgrown => exact ⟨_, a₁, w₁, hq, .of_steps (.one step_scope) harr⟩

/-- What holds at a jump to one of three labels. -/
def jump3 (J0 J1 J2 : Act → World → Prop) : Nat → Act → World → Prop
  | 0 => J0
  | 1 => J1
  | 2 => J2
  | _ => fun _ _ => False

theorem wp_scope_three {P : Program} {a : Act} {w : World} {Q : Exit → Act → World → Prop} {c r0 r1 r2 : Code} (J0 J1 J2 : Act → World → Prop) (μ0 μ1 μ2 : Act → World → Nat)
    (hf0 : findLabel c 0 = some r0) (hf1 : findLabel c 1 = some r1) (hf2 : findLabel c 2 = some r2)
    (first : c.wp P (jumpN (jump3 J0 J1 J2) Q) a w)
    (pass0 : ∀ a w, J0 a w → r0.wp P (jumpN (jump3 (fun a' w' => J0 a' w' ∧ μ0 a' w' < μ0 a w) (fun a' w' => J1 a' w' ∧ μ1 a' w' < μ0 a w) (fun a' w' => J2 a' w' ∧ μ2 a' w' < μ0 a w)) Q) a w)
    (pass1 : ∀ a w, J1 a w → r1.wp P (jumpN (jump3 (fun a' w' => J0 a' w' ∧ μ0 a' w' < μ1 a w) (fun a' w' => J1 a' w' ∧ μ1 a' w' < μ1 a w) (fun a' w' => J2 a' w' ∧ μ2 a' w' < μ1 a w)) Q) a w)
    (pass2 : ∀ a w, J2 a w → r2.wp P (jumpN (jump3 (fun a' w' => J0 a' w' ∧ μ0 a' w' < μ2 a w) (fun a' w' => J1 a' w' ∧ μ1 a' w' < μ2 a w) (fun a' w' => J2 a' w' ∧ μ2 a' w' < μ2 a w)) Q) a w) :
    (Code.scope c).wp P Q a w := by
  have hj : ∀ (M : Nat), (fun l' a' w' => jump3 J0 J1 J2 l' a' w' ∧ (match l' with | 0 => μ0 | 1 => μ1 | _ => μ2) a' w' < M) = jump3 (fun a' w' => J0 a' w' ∧ μ0 a' w' < M) (fun a' w' => J1 a' w' ∧ μ1 a' w' < M) (fun a' w' => J2 a' w' ∧ μ2 a' w' < M) := by
    intro M
    funext l' a' w'
    match l' with
    | 0 => rfl
    | 1 => rfl
    | 2 => rfl
    | n + 3 => simp [jump3]
  refine wp_scope_many (jump3 J0 J1 J2) (fun l' => match l' with | 0 => μ0 | 1 => μ1 | _ => μ2) (fun l' => match l' with | 0 => r0 | 1 => r1 | _ => r2) ?_ first ?_
  · intro l a w h
    match l, h with
    | 0, _ => exact hf0
    | 1, _ => exact hf1
    | 2, _ => exact hf2
  · intro l a w h
    match l, h with
    | 0, h => rw [hj]; exact pass0 a w h
    | 1, h => rw [hj]; exact pass1 a w h
    | 2, h => rw [hj]; exact pass2 a w h
end Go.Proofs.YtjgkekgieodhnaaDoor.Scope

/- What the program's readNum answers, by contracts. -/
namespace Go.Proofs.YtjgkekgieodhnaaDoor.GetNum
open Go.RowKit Go.Proofs.YtjgkekgieodhnaaDoor.Scope

def fr0 (g : Nat) (u : Nat → Value) : Act := { tmps := #[u 0, u 1, u 2, u 3, .int .u64 0, .int .i64 0, .nilIface, u 7, u 8, u 9, .pointer (some ⟨g, 0, none⟩), u 11, u 12, u 13, u 14, u 15, u 16, u 17, u 18, u 19, u 20, u 21, u 22, u 23, u 24, u 25, u 26, u 27, u 28, u 29, u 30, u 31, u 32, u 33, u 34, u 35, u 36, u 37, u 38, u 39, u 40, u 41, u 42, u 43, u 44, u 45, u 46, u 47, u 48, u 49, u 50, u 51, u 52, u 53, u 54, u 55, u 56, u 57, u 58], defers := [] }
def fr1 (s : ByteArray) (g : Nat) (p q r : Int) (u : Nat → Value) : Act := { tmps := #[.string s, .int .i64 p, u 2, u 3, .int .u64 0, .int .i64 0, .nilIface, .int .u64 q, .int .i64 r, u 9, .pointer (some ⟨g, 0, none⟩), u 11, u 12, u 13, u 14, u 15, u 16, u 17, u 18, u 19, u 20, u 21, u 22, u 23, u 24, u 25, u 26, u 27, u 28, u 29, u 30, u 31, u 32, u 33, u 34, u 35, u 36, u 37, u 38, u 39, u 40, u 41, u 42, u 43, u 44, u 45, u 46, u 47, u 48, u 49, u 50, u 51, u 52, u 53, u 54, u 55, u 56, u 57, u 58], defers := [] }
def fr2 (s : ByteArray) (g : Nat) (p q r c : Int) (u : Nat → Value) : Act := { tmps := #[.string s, .int .i64 p, u 2, u 3, .int .u64 0, .int .i64 0, .nilIface, .int .u64 q, .int .i64 r, .int .u8 c, .pointer (some ⟨g, 0, none⟩), u 11, u 12, u 13, u 14, u 15, u 16, u 17, u 18, u 19, u 20, u 21, u 22, u 23, u 24, u 25, u 26, u 27, u 28, u 29, u 30, u 31, u 32, u 33, u 34, u 35, u 36, u 37, u 38, u 39, u 40, u 41, u 42, u 43, u 44, u 45, u 46, u 47, u 48, u 49, u 50, u 51, u 52, u 53, u 54, u 55, u 56, u 57, u 58], defers := [] }

theorem fr0_of {g : Nat} {act : Act} (h : act = fr0 g (fun i => act.tmps.getD i undef)) : ∃ u, act = fr0 g u := ⟨_, h⟩
theorem fr1_of {s : ByteArray} {g : Nat} {p q r : Int} {act : Act} (h : act = fr1 s g p q r (fun i => act.tmps.getD i undef)) : ∃ u, act = fr1 s g p q r u := ⟨_, h⟩
theorem fr2_of {s : ByteArray} {g : Nat} {p q r c : Int} {act : Act} (h : act = fr2 s g p q r c (fun i => act.tmps.getD i undef)) : ∃ u, act = fr2 s g p q r c u := ⟨_, h⟩

/-- The place k behind a: its byte. -/
def byteAt (s : ByteArray) (a k : Nat) : Nat := (s[a + k]?.getD 0).toNat

/-- At 'wrong': the fault's code stands in memory. -/
def J0 (w0 : World) (R : Nat × Nat × Nat) (act : Act) (w : World) : Prop :=
  Below w0.heap.size w0 w ∧ w.cell? ⟨w0.heap.size, 0, none⟩ = some (.int .i64 (R.1 : Nat)) ∧ R.1 ≠ 0 ∧ ∃ u, act = fr0 w0.heap.size u
/-- At 'more': k bytes have been read. -/
def J1 (w0 : World) (s : ByteArray) (a : Nat) (act : Act) (w : World) : Prop :=
  Below w0.heap.size w0 w ∧ w.cell? ⟨w0.heap.size, 0, none⟩ = some (.int .i64 0) ∧ w.frozen? ⟨w0.heap.size, 0, none⟩ = false ∧
    ∃ (k x : Nat) (p q r : Int), Inv s a k x ∧ p = ((a + k : Nat) : Int) ∧ q = (x : Int) ∧ r = (k : Int) ∧ ∃ u, act = fr1 s w0.heap.size p q r u
/-- At 'last': the last byte has been read. -/
def J2 (w0 : World) (s : ByteArray) (a : Nat) (act : Act) (w : World) : Prop :=
  Below w0.heap.size w0 w ∧ w.cell? ⟨w0.heap.size, 0, none⟩ = some (.int .i64 0) ∧ w.frozen? ⟨w0.heap.size, 0, none⟩ = false ∧
    ∃ (k x : Nat) (p q r c : Int), Inv s a k x ∧ a + k < s.size ∧ (byteAt s a k < 128 ∨ k = 9) ∧ (¬ (k = 9 ∧ 1 < byteAt s a k) → q = ((x + byteAt s a k % 128 * 2 ^ (7 * k) : Nat) : Int)) ∧
      p = ((a + k + 1 : Nat) : Int) ∧ r = ((k + 1 : Nat) : Int) ∧ c = (byteAt s a k : Int) ∧ ∃ u, act = fr2 s w0.heap.size p q r c u
def mu1 (act : Act) (_ : World) : Nat := 13 - (intOf (act.tmps.getD 8 undef)).toNat

def readV (R : Nat × Nat × Nat) : Value := if R.1 = 0 then .tuple #[.int .u64 (R.2.1 : Nat), .int .i64 (R.2.2 : Nat), .nilIface] else .tuple #[.int .u64 0, .int .i64 0, .iface 79 (.agg #[.int .i64 (R.1 : Nat)])]

theorem readV_code {R : Nat × Nat × Nat} (h : R.1 ≠ 0) : readV R = .tuple #[.int .u64 0, .int .i64 0, .iface 79 (.agg #[.int .i64 (R.1 : Nat)])] := by
  unfold readV; rw [if_neg h]
theorem readV_ok {R : Nat × Nat × Nat} {y p : Nat} (h : R = (0, y, p)) : readV R = .tuple #[.int .u64 (y : Nat), .int .i64 (p : Nat), .nilIface] := by
  subst h; unfold readV; rw [if_pos rfl]

theorem jumpN_ret {J : Nat → Act → World → Prop} {Q : Exit → Act → World → Prop} {a : Act} {w : World} : jumpN J Q .ret a w = Q .ret a w := rfl
theorem ret_eq {v v' : Value} (h : v = v') : Ending.returned v = .returned v' := by rw [h]

set_option maxRecDepth 100000 in
set_option maxHeartbeats 2000000 in
theorem readNum_neg (s : ByteArray) (a : Int) (w : World) (ha : a < 0) :
    Calls Tryd.prog 39 #[.string s, .int .i64 a] w fun e w' => e = .returned (readV (1, 0, 0)) ∧ Below w.heap.size w w' := by
  go_enter Tryd.func39, Tryd.ntmps39
  go_wp2
  refine wp_scope_three (J0 w (1, 0, 0)) (fun _ _ => False) (fun _ _ => False) (fun _ _ => 0) (fun _ _ => 0) (fun _ _ => 0) rfl rfl rfl ?_ ?_ (fun _ _ h => h.elim) (fun _ _ h => h.elim)
  · go_wp2
    go_step3
    exact ⟨(Below.refl _ _).alloc (Nat.le_refl _) _, by simp, by decide, fr0_of rfl⟩
  · rintro a' w' ⟨hb, hcell, hne, u, rfl⟩
    unfold fr0
    go_wp2
    go_region
    go_wp2
    rw [jumpN_ret]
    go_ret3
    exact ⟨rfl, hb.drew⟩

theorem and127 (c : Nat) (h : c < 256) : bits .and .u8 (c : Int) 127 = (c : Int) % 128 := by
  have h1 := u8_and_nat c 127 h (by decide)
  have h2 : c &&& 127 = c % 128 := Nat.and_two_pow_sub_one_eq_mod c 7
  rw [h2] at h1
  simpa using h1

theorem or_sum {k u z c : Nat} (hu : u < 2 ^ (7 * k)) (hz : z = c % 128 * 2 ^ (7 * k)) (h1 : z < 18446744073709551616) (h2 : u + z < 18446744073709551616) : bits .or .u64 (u : Int) (z : Int) = ((u + z : Nat) : Int) := by
  have := u64_or_nat u z (by omega) h1
  rw [this]
  subst hz
  rw [or_eq_add hu]

theorem mu1_fr1 {s : ByteArray} {g : Nat} {p q : Int} {k : Nat} {u : Nat → Value} {w : World} : mu1 (fr1 s g p q (k : Int) u) w = 13 - k := by
  show 13 - ((k : Int)).toNat = 13 - k
  simp

set_option maxRecDepth 100000 in
set_option maxHeartbeats 4000000 in
theorem readNum_in (s : ByteArray) (a : Nat) (w : World) (hs : (s.size : Int) ≤ 8000) (ha : (a : Int) ≤ 9223372036854775807) :
    Calls Tryd.prog 39 #[.string s, .int .i64 a] w fun e w' => e = .returned (readV (rd s a)) ∧ Below w.heap.size w w' := by
  go_enter Tryd.func39, Tryd.ntmps39
  go_wp2
  refine wp_scope_three (J0 w (rd s a)) (J1 w s a) (J2 w s a) (fun _ _ => 0) mu1 (fun _ _ => 1) rfl rfl rfl ?_ ?_ ?_ ?_
  · have HI : Hid (Inv s a 0 0) := inv_start s a
    by_cases hlt : a < s.size
    · have hb := byte_lt s[a]
      have HC : Hid (byteAt s a 0 = s[a].toNat) := by show _ = _; unfold byteAt; rw [Nat.add_zero, at_lt s a hlt]
      have hlt1 : (a : Int) < (s.size : Int) := by omega
      have ham := and127 s[a].toNat hb
      have hw1 : IntKind.u64.wrap ((s[a].toNat : Int) % 128) = (s[a].toNat : Int) % 128 := IntWalk.u64_in _ ⟨by omega, by omega⟩
      have hor : bits .or .u64 0 ((s[a].toNat : Int) % 128) = (s[a].toNat : Int) % 128 := by
        have := u64_or_nat 0 (s[a].toNat % 128) (by omega) (by omega)
        simpa using this
      by_cases hc : (s[a].toNat : Int) < 128
      · go_wp2
        go_step3
        go_wp2
        go_step3
        refine ⟨(Below.refl _ _).alloc (Nat.le_refl _) _, by simp, by simp, 0, 0, _, _, _, _, HI.out, hlt, Or.inl (by rw [HC.out]; omega), ?_, ?_, ?_, ?_, fr2_of rfl⟩
        · intro _; rw [HC.out]; simp
        · omega
        · rfl
        · rw [HC.out]
      · have hn := (inv_step HI.out (by omega) (by omega) (by unfold byteAt at HC; rw [HC.out]; omega)).2
        have HN : Hid (Inv s a 1 (s[a].toNat - 128)) := by
          show Inv _ _ _ _
          have e := HC.out
          unfold byteAt at e
          rw [e] at hn
          simpa using hn
        clear hn
        go_wp2
        go_step3
        go_wp2
        go_step3
        refine ⟨(Below.refl _ _).alloc (Nat.le_refl _) _, by simp, by simp, 1, _, _, _, _, HN.out, ?_, ?_, ?_, fr1_of rfl⟩
        · omega
        · omega
        · rfl
    · have hge : (s.size : Int) ≤ (a : Int) := by omega
      have HR : Hid (rd s a = (4, 0, 0)) := inv_short HI.out (by omega)
      go_wp2
      go_step3
      go_wp2
      go_step3
      refine ⟨(Below.refl _ _).alloc (Nat.le_refl _) _, ?_, ?_, fr0_of rfl⟩
      · rw [HR.out]; simp
      · rw [HR.out]; decide
  · rintro a' w' ⟨hb, hcell, hne, u, rfl⟩
    have HR : Hid (readV (rd s a) = .tuple #[.int .u64 0, .int .i64 0, .iface 79 (.agg #[.int .i64 ((rd s a).1 : Nat)])]) := readV_code hne
    generalize (rd s a).1 = cd at *
    unfold fr0
    go_wp2
    go_region
    go_wp2
    rw [jumpN_ret]
    go_ret3
    exact ⟨ret_eq HR.out.symm, hb.drew⟩
  · rintro a' w' ⟨hbel, hcell, hfz, k, x, p, q, r, HV0, rfl, rfl, rfl, u, rfl⟩
    have HV : Hid (Inv s a k x) := HV0
    clear HV0
    have hk := HV.out.1
    rw [mu1_fr1]
    by_cases hlt : a + k < s.size
    · have ec := at_lt s (a + k) hlt
      have hb := byte_lt s[a + k]
      have HC : Hid (byteAt s a k = s[a + k].toNat) := by show _ = _; unfold byteAt; rw [ec]
      clear ec
      have hlt1 : ((a + k : Nat) : Int) < (s.size : Int) := by omega
      have ham := and127 s[a + k].toNat hb
      by_cases hwd : k = 9 ∧ 1 < s[a + k].toNat
      · have h10 : ((k : Int) + 1 == 10) = true := beq_iff_eq.2 (by omega)
        have HW : Hid (k = 9 ∧ 1 < s[a + k].toNat) := hwd
        clear hwd
        by_cases hc : (s[a + k].toNat : Int) < 128
        all_goals
          unfold fr1
          go_wp2
          go_step3
          refine ⟨⟨hbel, hcell, hfz, k, x, _, _, _, _, HV.out, hlt, Or.inr HW.out.1, ?_, ?_, ?_, ?_, fr2_of rfl⟩, by omega⟩
          · intro h; exact absurd (by rw [HC.out]; exact HW.out) h
          · omega
          · omega
          · rw [HC.out]
      · obtain ⟨hw1, _⟩ := wrap_shift (k := k) (u := x) (c := s[a + k].toNat) hk HV.out.2.1 (fun h => by omega)
        obtain ⟨hz1, hz2⟩ := sum_fits (k := k) (u := x) (x := s[a + k].toNat % 128) hk HV.out.2.1 (Nat.mod_lt _ (by omega)) (fun h => by omega)
        have HY : Hid (∃ z y, z = s[a + k].toNat % 128 * 2 ^ (7 * k) ∧ y = x + z) := ⟨_, _, rfl, rfl⟩
        obtain ⟨z, y, hz, hy⟩ := HY.out
        have hor := or_sum HV.out.2.1 hz (by rw [hz]; exact hz1) (by rw [hz]; exact hz2)
        rw [← hz] at hw1 hz1 hz2
        rw [← hy] at hor hz2
        have HZ : Hid (z = s[a + k].toNat % 128 * 2 ^ (7 * k)) := hz
        have HY2 : Hid (y = x + z) := hy
        clear HY hz hy
        have hz1' : (z : Int) ≤ 18446744073709551615 := by omega
        have hz2' : (y : Int) ≤ 18446744073709551615 := by omega
        clear hz1 hz2
        by_cases hc : (s[a + k].toNat : Int) < 128
        · unfold fr1
          go_wp2
          go_step3
          refine ⟨⟨hbel, hcell, hfz, k, x, _, _, _, _, HV.out, hlt, Or.inl (by rw [HC.out]; omega), ?_, ?_, ?_, ?_, fr2_of rfl⟩, by omega⟩
          · intro _; rw [HC.out, ← HZ.out, ← HY2.out]
          · omega
          · omega
          · rw [HC.out]
        · obtain ⟨hk8, hn⟩ := inv_step HV.out hlt (by have e := HC.out; unfold byteAt at e; rw [e]; exact hwd) (by have e := HC.out; unfold byteAt at e; rw [e]; omega)
          have hm : s[a + k].toNat % 128 = s[a + k].toNat - 128 := by omega
          have e := HC.out
          unfold byteAt at e
          rw [e, ← hm, ← HZ.out, ← HY2.out] at hn
          have HN : Hid (Inv s a (k + 1) y) := hn
          clear hn hm hwd e
          have h10 : ((k : Int) + 1 == 10) = false := beq_eq_false_iff_ne.2 (by omega)
          unfold fr1
          go_wp2
          go_step3
          refine ⟨⟨hbel, hcell, hfz, k + 1, y, _, _, _, HN.out, ?_, ?_, ?_, fr1_of rfl⟩, ?_⟩
          · omega
          · rfl
          · omega
          · show 13 - ((k : Int) + 1).toNat < _
            omega
    · have hge : (s.size : Int) ≤ ((a + k : Nat) : Int) := by omega
      have HR : Hid (rd s a = (4, 0, 0)) := inv_short HV.out (by omega)
      unfold fr1
      go_wp2
      go_step3
      refine ⟨⟨hbel.setCell (Nat.le_refl _) _, ?_, ?_, fr0_of rfl⟩, by omega⟩
      · rw [HR.out]; exact World.cell?_setCell_same _ _ _ hcell
      · rw [HR.out]; decide
  · rintro a' w' ⟨hbel, hcell, hfz, k, x, p, q, r, c, HV0, hlt, hend, hq, rfl, rfl, rfl, u, rfl⟩
    have HV : Hid (Inv s a k x) := HV0
    clear HV0
    have hk := HV.out.1
    have hb : byteAt s a k < 256 := byte_lt _
    have HC : Hid (byteAt s a k = (s[a + k]?.getD 0).toNat) := rfl
    by_cases hwd : k = 9 ∧ 1 < byteAt s a k
    · have HR : Hid (rd s a = (3, 0, 0)) := inv_wide HV.out hlt hwd.1 hwd.2
      have h10 : ((k : Int) + 1 == 10) = true := beq_iff_eq.2 (by omega)
      have hc1 : (1 : Int) < (byteAt s a k : Int) := by omega
      generalize byteAt s a k = c at *
      clear hwd hq hend
      unfold fr2
      go_wp2
      go_step3
      refine ⟨⟨hbel.setCell (Nat.le_refl _) _, ?_, ?_, fr0_of rfl⟩, by omega⟩
      · rw [HR.out]; exact World.cell?_setCell_same _ _ _ hcell
      · rw [HR.out]; decide
    · obtain rfl := hq hwd
      by_cases hlong : byteAt s a k = 0 ∧ 0 < k
      · have HR : Hid (rd s a = (3, 0, 0)) := inv_long HV.out hlt hlong.2 hlong.1
        have hc0 : ((byteAt s a k : Int) == 0) = true := beq_iff_eq.2 (by omega)
        have hk1 : (1 : Int) < (k : Int) + 1 := by omega
        have hc1 : ¬ (1 : Int) < (byteAt s a k : Int) := by omega
        generalize x + byteAt s a k % 128 * 2 ^ (7 * k) = y at *
        generalize byteAt s a k = c at *
        clear hwd hq hend hlong
        by_cases h9 : k = 9
        · have h10 : ((k : Int) + 1 == 10) = true := beq_iff_eq.2 (by omega)
          unfold fr2
          go_wp2
          go_step3
          refine ⟨⟨hbel.setCell (Nat.le_refl _) _, ?_, ?_, fr0_of rfl⟩, by omega⟩
          · rw [HR.out]; exact World.cell?_setCell_same _ _ _ hcell
          · rw [HR.out]; decide
        · have h10 : ((k : Int) + 1 == 10) = false := beq_eq_false_iff_ne.2 (by omega)
          unfold fr2
          go_wp2
          go_step3
          refine ⟨⟨hbel.setCell (Nat.le_refl _) _, ?_, ?_, fr0_of rfl⟩, by omega⟩
          · rw [HR.out]; exact World.cell?_setCell_same _ _ _ hcell
          · rw [HR.out]; decide
      · have hc128 : byteAt s a k < 128 := by omega
        have hr := inv_done HV.out hlt hwd hc128 hlong
        have hm : byteAt s a k % 128 = byteAt s a k := Nat.mod_eq_of_lt hc128
        have HR : Hid (readV (rd s a) = .tuple #[.int .u64 ((x + byteAt s a k % 128 * 2 ^ (7 * k) : Nat) : Int), .int .i64 ((a + k + 1 : Nat) : Int), .nilIface]) := by
          rw [hm]; exact readV_ok hr
        clear hr hm
        have ht : ((byteAt s a k : Int) == 0) = false ∨ (((byteAt s a k : Int) == 0) = true ∧ ¬ (1 : Int) < (k : Int) + 1) := by
          by_cases e : byteAt s a k = 0
          · exact .inr ⟨beq_iff_eq.2 (by omega), by omega⟩
          · exact .inl (beq_eq_false_iff_ne.2 (by omega))
        have hg : ((k : Int) + 1 == 10) = false ∨ (((k : Int) + 1 == 10) = true ∧ ¬ (1 : Int) < (byteAt s a k : Int)) := by
          by_cases e : k = 9
          · exact .inr ⟨beq_iff_eq.2 (by omega), by omega⟩
          · exact .inl (beq_eq_false_iff_ne.2 (by omega))
        generalize x + byteAt s a k % 128 * 2 ^ (7 * k) = y at *
        generalize byteAt s a k = c at *
        clear hwd hq hend hlong
        by_cases hk1 : (1 : Int) < (k : Int) + 1
        all_goals
          rcases ht with ht | ⟨ht, ht2⟩ <;> rcases hg with hg | ⟨hg, hg2⟩
          all_goals
            first
            | omega
            | (unfold fr2
               go_wp2
               rw [jumpN_ret]
               go_ret3
               exact ⟨ret_eq HR.out.symm, hbel⟩)
end Go.Proofs.YtjgkekgieodhnaaDoor.GetNum

/- What errors.As answers where the error is a readFault and the target a variable of that type; and codeOf by it. -/
namespace Go.Proofs.YtjgkekgieodhnaaDoor.AsFault
open Go.RowKit Go.Extern.Stop Go.Stop Go.Extern

theorem valueOfP (t : Addr) (w : World) : (ReflectliteValue.unpack (.iface 81 (.pointer (some t)))).run Tryd.prog w
    = .ok (.agg #[.pointer (some ⟨1, 81, none⟩), .pointer (some ⟨w.heap.size, 0, none⟩), .int .u64 150]) (w.alloc (.cells #[.pointer (some t)] 81)) := by kernel_rfl
theorem typeP (a : Addr) (w : World) : (ReflectliteValue.methodAny (ReflectliteValue.valueError "reflectlite.Value.Type" 0) (fun t _ _ _ => ReflectliteType.toType t) #[.agg #[.pointer (some ⟨1, 81, none⟩), .pointer (some a), .int .u64 150]]).run Tryd.prog w
    = .ok (.iface 99 (.agg #[.pointer (some ⟨1, 81, none⟩)])) w := by kernel_rfl
theorem methodKind (h : Value) (w : World) : (Go.method 241 99 (.agg #[h]) "Kind").run Tryd.prog w = .ok (82, h) w := by kernel_rfl
theorem kindP (w : World) : ((ReflectliteType.abiMethod fun t => Functor.map (fun a : Nat => Value.int IntKind.u8 (a : Int)) (Rtype.kind t)) #[.pointer (some ⟨1, 81, none⟩)]).run Tryd.prog w = .ok (.int .u8 22) w := by kernel_rfl
theorem kindS (w : World) : ((ReflectliteType.abiMethod fun t => Functor.map (fun a : Nat => Value.int IntKind.u8 (a : Int)) (Rtype.kind t)) #[.pointer (some ⟨1, 79, none⟩)]).run Tryd.prog w = .ok (.int .u8 25) w := by kernel_rfl

theorem partsP (a : Addr) (w : World) : (ReflectliteValue.parts (.agg #[.pointer (some ⟨1, 81, none⟩), .pointer (some a), .int .u64 150])).run Tryd.prog w = .ok (some (81, a, 150)) w := by kernel_rfl
theorem isNilP (a p : Addr) (W : World) (ha : W.cell? a = some (.pointer (some p))) :
    (ReflectliteValue.method (ReflectliteValue.valueError "reflectlite.Value.IsNil" 0) ReflectliteValue.isNil #[.agg #[.pointer (some ⟨1, 81, none⟩), .pointer (some a), .int .u64 150]]).run Tryd.prog W = .ok (.bool false) W := by
  rw [Lib.rl_method]
  simp only [Sem.run_bind, partsP, Result.andThen]
  simp [ReflectliteValue.isNil, loadVar, isAgg, underlying, Tryd.underlying81, ha, Result.andThen]

theorem methodElem (h : Value) (w : World) : (Go.method 241 99 (.agg #[h]) "Elem").run Tryd.prog w = .ok (92, .agg #[h]) w := by kernel_rfl
theorem methodImplements (h : Value) (w : World) : (Go.method 241 99 (.agg #[h]) "Implements").run Tryd.prog w = .ok (93, .agg #[h]) w := by kernel_rfl
theorem methodAssignableTo (h : Value) (w : World) : (Go.method 241 99 (.agg #[h]) "AssignableTo").run Tryd.prog w = .ok (90, .agg #[h]) w := by kernel_rfl
theorem elemP (w : World) : (ReflectliteType.method ReflectliteType.elem #[.agg #[.pointer (some ⟨1, 81, none⟩)]]).run Tryd.prog w = .ok (.iface 99 (.agg #[.pointer (some ⟨1, 79, none⟩)])) w := by kernel_rfl
theorem implementsS (w : World) : (ReflectliteType.relation "Implements" ReflectliteType.implements_ #[.agg #[.pointer (some ⟨1, 79, none⟩)], .iface 99 (.agg #[.pointer (some ⟨1, 66, none⟩)])]).run Tryd.prog w = .ok (.bool true) w := by kernel_rfl
theorem typeOfS (v : Value) (w : World) : (ReflectliteType.typeOf #[.iface 79 v]).run Tryd.prog w = .ok (.iface 99 (.agg #[.pointer (some ⟨1, 79, none⟩)])) w := by kernel_rfl
theorem assignableS (w : World) : (ReflectliteType.relation "AssignableTo" ReflectliteType.assignableTo #[.agg #[.pointer (some ⟨1, 79, none⟩)], .iface 99 (.agg #[.pointer (some ⟨1, 79, none⟩)])]).run Tryd.prog w = .ok (.bool true) w := by kernel_rfl
theorem valueOfS (c : Int) (w : World) : (ReflectliteValue.unpack (.iface 79 (.agg #[.int .i64 c]))).run Tryd.prog w
    = .ok (.agg #[.pointer (some ⟨1, 79, none⟩), .pointer (some ⟨w.heap.size, 0, none⟩), .int .u64 153]) (w.alloc (.cells #[.int .i64 c] 79)) := by kernel_rfl

theorem elemOfP (w : World) : (Rtype.elem? 81).run Tryd.prog w = .ok (some 79) w := by kernel_rfl
theorem mkS (p : Addr) (w : World) : (ReflectliteValue.mk 79 p ReflectliteValue.flagAddr).run Tryd.prog w = .ok (.agg #[.pointer (some ⟨1, 79, none⟩), .pointer (some p), .int .u64 409]) w := by kernel_rfl
theorem elemVP (a p : Addr) (W : World) (ha : W.cell? a = some (.pointer (some p))) :
    (ReflectliteValue.method (ReflectliteValue.valueError "reflectlite.Value.Elem" 0) ReflectliteValue.elem #[.agg #[.pointer (some ⟨1, 81, none⟩), .pointer (some a), .int .u64 150]]).run Tryd.prog W
      = .ok (.agg #[.pointer (some ⟨1, 79, none⟩), .pointer (some p), .int .u64 409]) W := by
  rw [Lib.rl_method]
  simp only [Sem.run_bind, partsP, Result.andThen]
  simp [ReflectliteValue.elem, loadVar, isAgg, underlying, Tryd.underlying81, ha, Result.andThen, elemOfP, mkS]
theorem partsSa (a : Addr) (w : World) : (ReflectliteValue.parts (.agg #[.pointer (some ⟨1, 79, none⟩), .pointer (some a), .int .u64 409])).run Tryd.prog w = .ok (some (79, a, 409)) w := by kernel_rfl
theorem partsS (a : Addr) (w : World) : (ReflectliteValue.parts (.agg #[.pointer (some ⟨1, 79, none⟩), .pointer (some a), .int .u64 153])).run Tryd.prog w = .ok (some (79, a, 153)) w := by kernel_rfl
theorem directS (w : World) : (Rtype.directlyAssignable 79 79).run Tryd.prog w = .ok true w := by kernel_rfl
theorem sizeS (w : World) : (sizeOf 79).run Tryd.prog w = .ok 1 w := by kernel_rfl
theorem setS (ta b : Addr) (c : Int) (old : Value) (W : World) (hb : W.cell? b = some (.int .i64 c)) (ht : W.cell? ta = some old) (hf : W.frozen? ta = false) :
    (ReflectliteValue.set #[.agg #[.pointer (some ⟨1, 79, none⟩), .pointer (some ta), .int .u64 409], .agg #[.pointer (some ⟨1, 79, none⟩), .pointer (some b), .int .u64 153]]).run Tryd.prog W
      = .ok (.tuple #[]) (W.setCell ta (.int .i64 c)) := by
  delta ReflectliteValue.set ReflectliteValue.set.match_3
  dsimp [Array.getLit]
  simp only [Sem.run_bind, partsSa, partsS, Result.andThen]
  have hl : (loadCells b 1).run Tryd.prog W = .ok #[.int .i64 c] W := by
    have := run_loadCells_list (P := Tryd.prog) W b [.int .i64 c] (fun j v hj => by
      match j, hj with
      | 0, hj => simp at hj; subst hj; simpa [Addr.add] using hb)
    simpa using this
  simp [ReflectliteValue.flagAddr, loadVar, isAgg, underlying, Tryd.underlying79, hl, Result.andThen, directS, storeVar, Value.cells, storeCells, Addr.add]
  rw [run_store Tryd.prog W ta _ _ (by rfl)]
  simp [ht, hf]

/-- The world behind errors.As. -/
def asWorld (w : World) (t : Addr) (c : Int) : World :=
  ((((w.alloc (.cells #[.pointer (some t)] 81)).alloc (.cells #[.pointer (some ⟨1, 81, none⟩), .pointer (some ⟨w.heap.size, 0, none⟩), .int .u64 150] 88)).alloc (.cells #[.pointer (some ⟨1, 81, none⟩), .pointer (some ⟨w.heap.size, 0, none⟩), .int .u64 150] 88)).alloc (.cells #[.int .i64 c] 79)).setCell t (.int .i64 c)

set_option maxHeartbeats 4000000 in
theorem as_hit (c : Int) (t : Addr) (old : Value) (w : World) (hg : w.cell? ⟨0, 0, none⟩ = some (.iface 99 (.agg #[.pointer (some ⟨1, 66, none⟩)]))) (ht0 : w.cell? t = some old) (hf0 : w.frozen? t = false) :
    Calls Tryd.prog 54 #[.iface 79 (.agg #[.int .i64 c]), .iface 81 (.pointer (some t))] w fun ev w' => ev = .returned (.bool true) ∧ w' = asWorld w t c := by
  have h6 := @run_callFunc_extern Tryd.prog 60 _ (fun args => ReflectliteValue.unpack (args.getD 0 (.tuple #[]))) Tryd.func60 (by kernel_rfl) (by kernel_rfl) (by kernel_rfl) (by kernel_rfl)
  have h7 := @run_callFunc_extern Tryd.prog 61 _ (ReflectliteValue.methodAny (ReflectliteValue.valueError "reflectlite.Value.Type" 0) (fun t _ _ _ => ReflectliteType.toType t)) Tryd.func61 (by kernel_rfl) (by kernel_rfl) (by kernel_rfl) (by kernel_rfl)
  have h8 := @run_callFunc_extern Tryd.prog 62 _ (ReflectliteValue.method (ReflectliteValue.valueError "reflectlite.Value.IsNil" 0) ReflectliteValue.isNil) Tryd.func62 (by kernel_rfl) (by kernel_rfl) (by kernel_rfl) (by kernel_rfl)
  have h27 := @run_callFunc_extern Tryd.prog 82 _ (ReflectliteType.abiMethod fun t => do pure (.int .u8 (← Rtype.kind t))) Tryd.func82 (by kernel_rfl) (by kernel_rfl) (by kernel_rfl) (by kernel_rfl)
  have h37 := @run_callFunc_extern Tryd.prog 92 _ (ReflectliteType.method ReflectliteType.elem) Tryd.func92 (by kernel_rfl) (by kernel_rfl) (by kernel_rfl) (by kernel_rfl)
  have h38 := @run_callFunc_extern Tryd.prog 93 _ (ReflectliteType.relation "Implements" ReflectliteType.implements_) Tryd.func93 (by kernel_rfl) (by kernel_rfl) (by kernel_rfl) (by kernel_rfl)
  have h10 := @run_callFunc_extern Tryd.prog 65 _ ReflectliteType.typeOf Tryd.func65 (by kernel_rfl) (by kernel_rfl) (by kernel_rfl) (by kernel_rfl)
  have h35 := @run_callFunc_extern Tryd.prog 90 _ (ReflectliteType.relation "AssignableTo" ReflectliteType.assignableTo) Tryd.func90 (by kernel_rfl) (by kernel_rfl) (by kernel_rfl) (by kernel_rfl)
  have h11 := @run_callFunc_extern Tryd.prog 66 _ (ReflectliteValue.method (ReflectliteValue.valueError "reflectlite.Value.Elem" 0) ReflectliteValue.elem) Tryd.func66 (by kernel_rfl) (by kernel_rfl) (by kernel_rfl) (by kernel_rfl)
  have h12 := @run_callFunc_extern Tryd.prog 67 _ ReflectliteValue.set Tryd.func67 (by kernel_rfl) (by kernel_rfl) (by kernel_rfl) (by kernel_rfl)
  have tO := typeOfS
  have mA := methodAssignableTo
  have aS := assignableS
  have vS := valueOfS
  have f6 := valueOfP
  have f7 := typeP
  have mK := methodKind
  have mE := methodElem
  have mI := methodImplements
  have kP := kindP
  have kS := kindS
  have eP := elemP
  have iS := implementsS
  have n8 := isNilP ⟨w.heap.size, 0, none⟩ t ((w.alloc (.cells #[.pointer (some t)] 81)).alloc (.cells #[.pointer (some ⟨1, 81, none⟩), .pointer (some ⟨w.heap.size, 0, none⟩), .int .u64 150] 88)) (by simp)
  have hlt : 0 < w.heap.size := World.block_lt_of_cell? w ⟨0, 0, none⟩ hg
  have hg2 : ((w.alloc (.cells #[.pointer (some t)] 81)).alloc (.cells #[.pointer (some ⟨1, 81, none⟩), .pointer (some ⟨w.heap.size, 0, none⟩), .int .u64 150] 88)).cell? ⟨0, 0, none⟩ = some (.iface 99 (.agg #[.pointer (some ⟨1, 66, none⟩)])) := by
    rw [World.cell?_alloc_lt _ _ ⟨0, 0, none⟩ (by simp <;> omega), World.cell?_alloc_lt _ _ ⟨0, 0, none⟩ hlt]; exact hg
  have htl : t.block < w.heap.size := by
    rcases Nat.lt_or_ge t.block w.heap.size with h | h
    · exact h
    · simp [World.cell?, Array.getElem?_eq_none h] at ht0
  have el := elemVP ⟨w.heap.size, 0, none⟩ t (((w.alloc (.cells #[.pointer (some t)] 81)).alloc (.cells #[.pointer (some ⟨1, 81, none⟩), .pointer (some ⟨w.heap.size, 0, none⟩), .int .u64 150] 88)).alloc (.cells #[.pointer (some ⟨1, 81, none⟩), .pointer (some ⟨w.heap.size, 0, none⟩), .int .u64 150] 88)) (by rw [World.cell?_alloc_lt _ _ ⟨w.heap.size, 0, none⟩ (by simp <;> omega)]; simp)
  have st := setS t ⟨w.heap.size + 1 + 1 + 1, 0, none⟩ c old ((((w.alloc (.cells #[.pointer (some t)] 81)).alloc (.cells #[.pointer (some ⟨1, 81, none⟩), .pointer (some ⟨w.heap.size, 0, none⟩), .int .u64 150] 88)).alloc (.cells #[.pointer (some ⟨1, 81, none⟩), .pointer (some ⟨w.heap.size, 0, none⟩), .int .u64 150] 88)).alloc (.cells #[.int .i64 c] 79))
    (by rw [World.cell?_alloc_at _ _ _ _ (by simp)]; rfl)
    (by rw [World.cell?_alloc_lt _ _ t (by simp <;> omega), World.cell?_alloc_lt _ _ t (by simp <;> omega), World.cell?_alloc_lt _ _ t (by simp <;> omega), World.cell?_alloc_lt _ _ t htl]; exact ht0)
    (by rw [World.frozen?_alloc_old _ _ t (by simp <;> omega), World.frozen?_alloc_old _ _ t (by simp <;> omega), World.frozen?_alloc_old _ _ t (by simp <;> omega), World.frozen?_alloc_old _ _ t (Nat.ne_of_lt htl)]; exact hf0)
  have HW : Hid (asWorld w t c = ((((w.alloc (.cells #[.pointer (some t)] 81)).alloc (.cells #[.pointer (some ⟨1, 81, none⟩), .pointer (some ⟨w.heap.size, 0, none⟩), .int .u64 150] 88)).alloc (.cells #[.pointer (some ⟨1, 81, none⟩), .pointer (some ⟨w.heap.size, 0, none⟩), .int .u64 150] 88)).alloc (.cells #[.int .i64 c] 79)).setCell t (.int .i64 c)) := rfl
  go_enter Tryd.func54, Tryd.ntmps54
  go_wp2
  refine wp_loop_rounds 1 ?_
  rw [rounds_succ]
  go_wp2
  go_ret
  exact ⟨rfl, HW.out.symm⟩

set_option maxHeartbeats 1000000 in
/-- The code of a readFault. -/
theorem codeOf_any (c : Int) (w : World) (hg : w.cell? ⟨0, 0, none⟩ = some (.iface 99 (.agg #[.pointer (some ⟨1, 66, none⟩)]))) :
    Calls Tryd.prog 40 #[.iface 79 (.agg #[.int .i64 c])] w fun e w' => e = .returned (.int .i64 c) ∧ Below w.heap.size w w' := by
  have hlt : 0 < w.heap.size := World.block_lt_of_cell? w ⟨0, 0, none⟩ hg
  have hgA : (w.alloc (.cells #[.int .i64 0] 79)).cell? ⟨0, 0, none⟩ = some (.iface 99 (.agg #[.pointer (some ⟨1, 66, none⟩)])) := by
    rw [World.cell?_alloc_lt _ _ ⟨0, 0, none⟩ hlt]; exact hg
  have htA : (w.alloc (.cells #[.int .i64 0] 79)).cell? ⟨w.heap.size, 0, none⟩ = some (.int .i64 0) := by simp
  have hfA : (w.alloc (.cells #[.int .i64 0] 79)).frozen? ⟨w.heap.size, 0, none⟩ = false := by simp
  have hbel : Hid (Below w.heap.size w (asWorld (w.alloc (.cells #[.int .i64 0] 79)) ⟨w.heap.size, 0, none⟩ c)) := by
    show Below _ _ _
    unfold asWorld
    refine Below.setCell (p := ⟨w.heap.size, 0, none⟩) ?_ (Nat.le_refl _) _
    exact (((((Below.refl _ _).alloc (Nat.le_refl _) _).alloc (by simp) _).alloc (by simp <;> omega) _).alloc (by simp <;> omega) _).alloc (by simp <;> omega) _
  have hcell : (asWorld (w.alloc (.cells #[.int .i64 0] 79)) ⟨w.heap.size, 0, none⟩ c).cell? ⟨w.heap.size, 0, none⟩ = some (.int .i64 c) := by
    unfold asWorld
    refine World.cell?_setCell_same _ _ _ (?_ : _ = some (.int .i64 0))
    rw [World.cell?_alloc_lt _ _ ⟨w.heap.size, 0, none⟩ (by simp <;> omega), World.cell?_alloc_lt _ _ ⟨w.heap.size, 0, none⟩ (by simp <;> omega), World.cell?_alloc_lt _ _ ⟨w.heap.size, 0, none⟩ (by simp <;> omega), World.cell?_alloc_lt _ _ ⟨w.heap.size, 0, none⟩ (by simp)]
    exact htA
  go_enter Tryd.func40, Tryd.ntmps40
  go_wp2_with (go_at_call 54; refine (as_hit c _ _ _ hgA htA hfA).mono ?_; rintro e w' ⟨rfl, rfl⟩)
  go_ret
  exact ⟨rfl, hbel.out⟩
end Go.Proofs.YtjgkekgieodhnaaDoor.AsFault

/- What the program's GetNum answers, by contracts. -/
namespace Go.Proofs.YtjgkekgieodhnaaDoor.GetNum
open Go.RowKit Go.Proofs.YtjgkekgieodhnaaDoor.Scope

/-- What the variable errors.errorType holds. -/
def Laid (w : World) : Prop := w.cell? ⟨0, 0, none⟩ = some (.iface 99 (.agg #[.pointer (some ⟨1, 66, none⟩)]))

theorem laid_pos {w : World} (h : Laid w) : 0 < w.heap.size := World.block_lt_of_cell? w ⟨0, 0, none⟩ h

theorem laid_below {w w' : World} (h : Laid w) (hb : Below w.heap.size w w') : Laid w' := by
  have := hb.cell (p := ⟨0, 0, none⟩) (laid_pos h)
  unfold Laid at *
  rw [this]; exact h

theorem bcell {W w1 : World} (hb : Below W.heap.size W w1) : (∀ b o, b < W.heap.size → w1.cell? ⟨b, o, none⟩ = W.cell? ⟨b, o, none⟩) ∧ (∀ b o, b < W.heap.size → w1.frozen? ⟨b, o, none⟩ = W.frozen? ⟨b, o, none⟩) :=
  ⟨fun b o h => hb.cell (p := ⟨b, o, none⟩) h, fun b o h => hb.frozen (p := ⟨b, o, none⟩) h⟩

theorem bstep {w a b : World} (h : Below w.heap.size w a) (k : Below a.heap.size a b) : Below w.heap.size w b := h.trans (k.mono h.size)
theorem balloc {w a : World} (h : Below w.heap.size w a) (o : Obj) : Below w.heap.size w (a.alloc o) := h.alloc h.size o

theorem xor_ones (a : Nat) (h : a < 18446744073709551616) : 18446744073709551615 ^^^ a = 18446744073709551615 - a := by
  have h1 : (BitVec.allOnes 64 ^^^ BitVec.ofNat 64 a).toNat = 18446744073709551615 ^^^ a := by
    rw [BitVec.toNat_xor, BitVec.toNat_allOnes, BitVec.toNat_ofNat, Nat.mod_eq_of_lt (by simpa using h)]
  rw [← h1, BitVec.allOnes_xor, BitVec.toNat_not, BitVec.toNat_ofNat, Nat.mod_eq_of_lt (by simpa using h)]

theorem max64 : IntKind.u64.max = 18446744073709551615 := by simp [IntKind.max, IntKind.bits, IntKind.signed]

theorem unfold_bits {u : Nat} (hu : (u : Int) ≤ 18446744073709551615) (h : u % 2 = 1) : wrap64 (bits .xor .u64 IntKind.u64.max ((u : Int) / 2)) = unfoldI u := by
  have h1 := u64_xor_nat 18446744073709551615 (u / 2) (by decide) (by omega)
  rw [xor_ones _ (by omega)] at h1
  have e : ((u : Int) / 2) = ((u / 2 : Nat) : Int) := by omega
  rw [max64, e]
  refine (congrArg wrap64 h1).trans ?_
  unfold wrap64 unfoldI
  rw [if_pos h]
  omega

theorem and1 {u : Nat} (hu : (u : Int) ≤ 18446744073709551615) : bits .and .u64 (u : Int) 1 = ((u % 2 : Nat) : Int) := by
  have := u64_and_nat u 1 (by omega) (by decide)
  rw [Nat.and_one_is_mod] at this
  exact this

theorem ret_int {k : IntKind} {a b : Int} (h : a = b) : Ending.returned (.int k a) = .returned (.int k b) := by rw [h]

set_option maxRecDepth 100000 in
theorem unfold_any (u : Nat) (w : World) (hu : (u : Int) ≤ 18446744073709551615) :
    Calls Tryd.prog 41 #[.int .u64 u] w fun e w' => e = .returned (.int .i64 (unfoldI u)) ∧ w = w' := by
  by_cases h : u % 2 = 1
  · have ht : (bits .and .u64 (u : Int) 1 == 1) = true := by rw [and1 hu, h]; rfl
    have HB : Hid (wrap64 (bits .xor .u64 IntKind.u64.max ((u : Int) / 2)) = unfoldI u) := unfold_bits hu h
    clear h
    go_enter Tryd.func41, Tryd.ntmps41
    go_wp2
    go_ret
    exact ⟨ret_int HB.out, rfl⟩
  · have ht : (bits .and .u64 (u : Int) 1 == 1) = false := by rw [and1 hu, beq_eq_false_iff_ne]; omega
    have HB : Hid (((u : Int) / 2) = unfoldI u) := unfold_even h
    clear h
    go_enter Tryd.func41, Tryd.ntmps41
    go_wp2
    go_ret
    exact ⟨ret_int HB.out, rfl⟩

theorem implGetNum_big (s : ByteArray) (a : Int) (w : World) (hs : 8000 < (s.size : Int)) :
    Calls Tryd.prog 25 #[.string s, .int .i64 a] w fun e w' => e = .returned (.agg #[.int .i64 0, .int .i64 0, .int .i64 2]) ∧ Below w.heap.size w w' := by
  go_enter Tryd.func25, Tryd.ntmps25
  go_wp2
  exact bodyPost_ret (v := .agg #[.int .i64 0, .int .i64 0, .int .i64 2]) (by simp [results, Tryd.results25, go_sem]) rfl ⟨rfl, (Below.refl _ _).alloc (Nat.le_refl _) _⟩

set_option maxRecDepth 100000 in
set_option maxHeartbeats 1000000 in
theorem implGetNum_code (s : ByteArray) (a : Int) (w : World) (cd : Nat) (hs : (s.size : Int) ≤ 8000) (hL : Laid w)
    (K : ∀ w, Calls Tryd.prog 39 #[.string s, .int .i64 a] w fun e w' => e = .returned (.tuple #[.int .u64 0, .int .i64 0, .iface 79 (.agg #[.int .i64 (cd : Nat)])]) ∧ Below w.heap.size w w') :
    Calls Tryd.prog 25 #[.string s, .int .i64 a] w fun e w' => e = .returned (.agg #[.int .i64 0, .int .i64 0, .int .i64 (cd : Nat)]) ∧ Below w.heap.size w w' := by
  have HK : Hid _ := K
  have HL : Hid (Laid w) := hL
  clear K hL
  go_enter Tryd.func25, Tryd.ntmps25
  go_wp2_with (first | (go_at_call 39; refine (HK.out _).mono ?_; rintro e w1 ⟨rfl, hb1⟩; obtain ⟨hcc, hff⟩ := bcell hb1; have hsz := hb1.size; simp at hcc hff hsz))
  have hL1 : Laid w1 := laid_below (laid_below HL.out ((Below.refl _ _).alloc (Nat.le_refl _) _)) hb1
  have hlt : w.heap.size < w1.heap.size := by omega
  refine (AsFault.codeOf_any cd w1 hL1).mono ?_
  rintro e w2 ⟨rfl, hb2⟩
  obtain ⟨hcc2, hff2⟩ := bcell hb2
  clear hL1
  go_wp2
  refine bodyPost_ret (v := .agg #[.int .i64 0, .int .i64 0, .int .i64 (cd : Nat)]) ?_ rfl ⟨rfl, ?_⟩
  · simp [results, Tryd.results25, go_sem, hcc, hcc2, hlt]
  · have hB1 : Below w.heap.size w w2 := bstep (bstep (balloc (Below.refl _ _) _) hb1) hb2
    exact ((hB1.setCell (Nat.le_refl _) _).setCell (Nat.le_refl _) _).setCell (Nat.le_refl _) _

set_option maxRecDepth 100000 in
set_option maxHeartbeats 1000000 in
theorem implGetNum_ok (s : ByteArray) (a : Int) (w : World) (y p : Nat) (hs : (s.size : Int) ≤ 8000) (hy : (y : Int) ≤ 18446744073709551615)
    (K : ∀ w, Calls Tryd.prog 39 #[.string s, .int .i64 a] w fun e w' => e = .returned (.tuple #[.int .u64 (y : Nat), .int .i64 (p : Nat), .nilIface]) ∧ Below w.heap.size w w') :
    Calls Tryd.prog 25 #[.string s, .int .i64 a] w fun e w' => e = .returned (.agg #[.int .i64 (unfoldI y), .int .i64 (p : Nat), .int .i64 0]) ∧ Below w.heap.size w w' := by
  have HK : Hid _ := K
  clear K
  go_enter Tryd.func25, Tryd.ntmps25
  go_wp2_with (first | (go_at_call 39; refine (HK.out _).mono ?_; rintro e w1 ⟨rfl, hb1⟩; obtain ⟨hcc, hff⟩ := bcell hb1; have hsz := hb1.size; simp at hcc hff hsz) | (go_at_call 41; refine (unfold_any y _ hy).mono ?_; rintro e w2 ⟨rfl, rfl⟩))
  refine bodyPost_ret (v := .agg #[.int .i64 (unfoldI y), .int .i64 (p : Nat), .int .i64 0]) ?_ rfl ⟨rfl, ?_⟩
  · simp [results, Tryd.results25, go_sem, hcc]
  · have hB1 : Below w.heap.size w w1 := bstep (balloc (Below.refl _ _) _) hb1
    exact ((hB1.setCell (Nat.le_refl _) _).setCell (Nat.le_refl _) _).setCell (Nat.le_refl _) _

/-- What GetNum answers, of whatever text and place. -/
structure Ans (s : ByteArray) (n p c : Int) : Prop where
  n1 : -9223372036854775808 ≤ n
  n2 : n ≤ 9223372036854775807
  ok : c = 0 → 0 ≤ p ∧ p ≤ s.size ∧ (s.size : Int) ≤ 8000

end Go.Proofs.YtjgkekgieodhnaaDoor.GetNum

/- The two GetNum functions give one answer. -/
namespace Go.Proofs.YtjgkekgieodhnaaDoor.GetNum
open Go.RowKit

/-- Whatever the place: one answer of both. -/
theorem both (s : ByteArray) (a : Int) (h2 : a ≤ 9223372036854775807) :
    ∃ n p c : Int, Ans s n p c ∧
      (∀ w, Calls Tryd.prog 22 #[.string s, .int .i64 a] w fun e w' => e = .returned (.agg #[.int .i64 n, .int .i64 p, .int .i64 c]) ∧ Below w.heap.size w w') ∧
      (∀ w, Laid w → Calls Tryd.prog 25 #[.string s, .int .i64 a] w fun e w' => e = .returned (.agg #[.int .i64 n, .int .i64 p, .int .i64 c]) ∧ Below w.heap.size w w') := by
  by_cases hs : 8000 < (s.size : Int)
  · exact ⟨0, 0, 2, ⟨by omega, by omega, fun h => by omega⟩, fun w => specGetNum_big s a w hs, fun w _ => implGetNum_big s a w hs⟩
  · have hs' : (s.size : Int) ≤ 8000 := by omega
    by_cases ha : a < 0
    · refine ⟨0, 0, 1, ⟨by omega, by omega, fun h => by omega⟩, fun w => specGetNum_neg s a w hs' ha, fun w hL => ?_⟩
      exact implGetNum_code s a w 1 hs' hL (fun w => readNum_neg s a w ha)
    · obtain ⟨m, rfl⟩ := Int.eq_ofNat_of_zero_le (by omega : 0 ≤ a)
      rcases rd_cases s m with ⟨y, q, hr, hy, hq⟩ | hr | hr
      · have hb := unfold_bd hy
        refine ⟨unfoldI y, (q : Nat), 0, ⟨hb.1, hb.2, fun _ => ⟨by omega, by omega, hs'⟩⟩, fun w => ?_, fun w _ => ?_⟩
        · have := specGetNum_in s m w hs' h2
          rwa [outV_ok hr] at this
        · refine implGetNum_ok s m w y q hs' (by omega) (fun w => ?_)
          have := readNum_in s m w hs' h2
          rwa [readV_ok hr] at this
      all_goals
        have hne : (rd s m).1 ≠ 0 := by rw [hr]; decide
        refine ⟨0, 0, ((rd s m).1 : Nat), ⟨by omega, by omega, fun h => by omega⟩, fun w => ?_, fun w hL => ?_⟩
        · have := specGetNum_in s m w hs' h2
          unfold outV at this
          rwa [if_neg hne] at this
        · refine implGetNum_code s m w (rd s m).1 hs' hL (fun w => ?_)
          have := readNum_in s m w hs' h2
          rwa [readV_code hne] at this
end Go.Proofs.YtjgkekgieodhnaaDoor.GetNum

/- Words on GetText's answers. -/
namespace Go.Proofs.YtjgkekgieodhnaaDoor.GetText
open Go.RowKit Go.Proofs.YtjgkekgieodhnaaDoor.GetNum

theorem bset {w a : World} (h : Below w.heap.size w a) (o : Nat) (v : Value) : Below w.heap.size w (a.setCell ⟨w.heap.size, o, none⟩ v) := h.setCell (p := ⟨w.heap.size, o, none⟩) (Nat.le_refl _) v

/-- GetNum's answer, at the model's function or the program's. -/
abbrev Gets (f : Nat) (s : ByteArray) (a n p c : Int) (w : World) : Prop :=
  Calls Tryd.prog f #[.string s, .int .i64 a] w fun e w' => e = .returned (.agg #[.int .i64 n, .int .i64 p, .int .i64 c]) ∧ Below w.heap.size w w'
abbrev Texts (f : Nat) (s : ByteArray) (a : Int) (t : ByteArray) (p c : Int) (w : World) : Prop :=
  Calls Tryd.prog f #[.string s, .int .i64 a] w fun e w' => e = .returned (.agg #[.string t, .int .i64 p, .int .i64 c]) ∧ Below w.heap.size w w'

end Go.Proofs.YtjgkekgieodhnaaDoor.GetText

/- What the model's GetText answers, given what its GetNum does. -/
namespace Go.Proofs.YtjgkekgieodhnaaDoor.GetText
open Go.RowKit Go.Proofs.YtjgkekgieodhnaaDoor.GetNum

set_option maxRecDepth 100000 in
set_option maxHeartbeats 1000000 in
theorem spec_code (s : ByteArray) (a n p c : Int) (w : World) (hc : c ≠ 0) (K : ∀ w, Gets 22 s a n p c w) : Texts 21 s a ByteArray.empty 0 c w := by
  have HK : Hid _ := K
  clear K
  have hcb : (c != 0) = true := by rw [bne_iff_ne]; exact hc
  clear hc
  unfold Texts
  go_enter Tryd.func21, Tryd.ntmps21
  go_wp2_with (first | (go_at_call 22; refine (HK.out _).mono ?_; rintro e w1 ⟨rfl, hb1⟩; obtain ⟨hcc, hff⟩ := bcell hb1; have hsz := hb1.size; simp at hcc hff hsz; have hlt : w.heap.size < w1.heap.size := by omega))
  refine bodyPost_ret (v := .agg #[.string ByteArray.empty, .int .i64 0, .int .i64 c]) ?_ rfl ⟨rfl, ?_⟩
  · simp [results, Tryd.results21, go_sem, hcc, hlt]
    rfl
  · have hB1 : Below w.heap.size w w1 := bstep (balloc (Below.refl _ _) _) hb1
    repeat (first | exact hB1 | refine Below.drew ?_ | refine bset ?_ _ _ | refine Below.alloc ?_ (by simp; omega) _)

set_option maxRecDepth 100000 in
set_option maxHeartbeats 1000000 in
theorem spec_syntax (s : ByteArray) (a n p : Int) (w : World) (hn : n < 0 ∨ 8000 < n) (K : ∀ w, Gets 22 s a n p 0 w) : Texts 21 s a ByteArray.empty 0 3 w := by
  have HK : Hid _ := K
  clear K
  unfold Texts
  rcases hn with hn | hn
  all_goals
    go_enter Tryd.func21, Tryd.ntmps21
    go_wp2_with (first | (go_at_call 22; refine (HK.out _).mono ?_; rintro e w1 ⟨rfl, hb1⟩; obtain ⟨hcc, hff⟩ := bcell hb1; have hsz := hb1.size; simp at hcc hff hsz; have hlt : w.heap.size < w1.heap.size := by omega))
    refine bodyPost_ret (v := .agg #[.string ByteArray.empty, .int .i64 0, .int .i64 3]) ?_ rfl ⟨rfl, ?_⟩
    · simp [results, Tryd.results21, go_sem, hcc, hlt]
      rfl
    · have hB1 : Below w.heap.size w w1 := bstep (balloc (Below.refl _ _) _) hb1
      repeat (first | exact hB1 | refine Below.drew ?_ | refine bset ?_ _ _ | refine Below.alloc ?_ (by simp; omega) _)

set_option maxRecDepth 100000 in
set_option maxHeartbeats 1000000 in
theorem spec_short (s : ByteArray) (a : Int) (n p : Nat) (w : World) (hs : (s.size : Int) ≤ 8000) (hn : (n : Int) ≤ 8000) (hq : (p : Int) ≤ s.size) (hp : (s.size : Int) < (p : Int) + (n : Int)) (K : ∀ w, Gets 22 s a n p 0 w) : Texts 21 s a ByteArray.empty 0 4 w := by
  have HK : Hid _ := K
  clear K
  have hle : (s.size : Int) - (n : Int) < (p : Int) := by omega
  unfold Texts
  go_enter Tryd.func21, Tryd.ntmps21
  go_wp2_with (first | (go_at_call 22; refine (HK.out _).mono ?_; rintro e w1 ⟨rfl, hb1⟩; obtain ⟨hcc, hff⟩ := bcell hb1; have hsz := hb1.size; simp at hcc hff hsz; have hlt : w.heap.size < w1.heap.size := by omega))
  refine bodyPost_ret (v := .agg #[.string ByteArray.empty, .int .i64 0, .int .i64 4]) ?_ rfl ⟨rfl, ?_⟩
  · simp [results, Tryd.results21, go_sem, hcc, hlt]
    rfl
  · have hB1 : Below w.heap.size w w1 := bstep (balloc (Below.refl _ _) _) hb1
    repeat (first | exact hB1 | refine Below.drew ?_ | refine bset ?_ _ _ | refine Below.alloc ?_ (by simp; omega) _)

set_option maxRecDepth 100000 in
set_option maxHeartbeats 1000000 in
theorem spec_ok (s : ByteArray) (a : Int) (n p : Nat) (w : World) (hs : (s.size : Int) ≤ 8000) (hn : (n : Int) ≤ 8000) (hp : (p : Int) + (n : Int) ≤ s.size) (K : ∀ w, Gets 22 s a n p 0 w) :
    Texts 21 s a (s.extract p (p + n)) ((p + n : Nat) : Int) 0 w := by
  have HK : Hid _ := K
  clear K
  have hle : (p : Int) ≤ (s.size : Int) - (n : Int) := by omega
  unfold Texts
  go_enter Tryd.func21, Tryd.ntmps21
  go_wp2_with (first | (go_at_call 22; refine (HK.out _).mono ?_; rintro e w1 ⟨rfl, hb1⟩; obtain ⟨hcc, hff⟩ := bcell hb1; have hsz := hb1.size; simp at hcc hff hsz; have hlt : w.heap.size < w1.heap.size := by omega))
  go_region
  go_wp2
  refine bodyPost_ret (v := .agg #[.string (s.extract p (p + n)), .int .i64 ((p + n : Nat) : Int), .int .i64 0]) ?_ rfl ⟨rfl, ?_⟩
  · simp [results, Tryd.results21, go_sem, hcc, hlt]
  · have hB1 : Below w.heap.size w w1 := bstep (balloc (Below.refl _ _) _) hb1
    repeat (first | exact hB1 | refine Below.drew ?_ | refine bset ?_ _ _ | refine Below.alloc ?_ (by simp; omega) _)

end Go.Proofs.YtjgkekgieodhnaaDoor.GetText

/- What the program's GetText answers, given what its GetNum does. -/
namespace Go.Proofs.YtjgkekgieodhnaaDoor.GetText
open Go.RowKit Go.Proofs.YtjgkekgieodhnaaDoor.GetNum

set_option maxRecDepth 100000 in
set_option maxHeartbeats 1000000 in
theorem impl_code (s : ByteArray) (a n p c : Int) (w : World) (hL : Laid w) (hc : c ≠ 0) (K : ∀ w, Laid w → Gets 25 s a n p c w) : Texts 42 s a ByteArray.empty 0 c w := by
  have HK : Hid _ := K
  clear K
  have HL : Hid (Laid w) := hL
  clear hL
  have hcb : (c != 0) = true := by rw [bne_iff_ne]; exact hc
  clear hc
  unfold Texts
  go_enter Tryd.func42, Tryd.ntmps42
  go_wp2_with (first | (go_at_call 25; refine (HK.out _ (laid_below HL.out (balloc (Below.refl _ _) _))).mono ?_; rintro e w1 ⟨rfl, hb1⟩; obtain ⟨hcc, hff⟩ := bcell hb1; have hsz := hb1.size; simp at hcc hff hsz; have hlt : w.heap.size < w1.heap.size := by omega))
  refine bodyPost_ret (v := .agg #[.string ByteArray.empty, .int .i64 0, .int .i64 c]) ?_ rfl ⟨rfl, ?_⟩
  · simp [results, Tryd.results42, go_sem, hcc, hlt]
    rfl
  · have hB1 : Below w.heap.size w w1 := bstep (balloc (Below.refl _ _) _) hb1
    repeat (first | exact hB1 | refine Below.drew ?_ | refine bset ?_ _ _ | refine Below.alloc ?_ (by simp; omega) _)

set_option maxRecDepth 100000 in
set_option maxHeartbeats 1000000 in
theorem impl_syntax (s : ByteArray) (a n p : Int) (w : World) (hL : Laid w) (hn : n < 0 ∨ 8000 < n) (K : ∀ w, Laid w → Gets 25 s a n p 0 w) : Texts 42 s a ByteArray.empty 0 3 w := by
  have HK : Hid _ := K
  clear K
  have HL : Hid (Laid w) := hL
  clear hL
  unfold Texts
  rcases hn with hn | hn
  all_goals
    go_enter Tryd.func42, Tryd.ntmps42
    go_wp2_with (first | (go_at_call 25; refine (HK.out _ (laid_below HL.out (balloc (Below.refl _ _) _))).mono ?_; rintro e w1 ⟨rfl, hb1⟩; obtain ⟨hcc, hff⟩ := bcell hb1; have hsz := hb1.size; simp at hcc hff hsz; have hlt : w.heap.size < w1.heap.size := by omega))
    refine bodyPost_ret (v := .agg #[.string ByteArray.empty, .int .i64 0, .int .i64 3]) ?_ rfl ⟨rfl, ?_⟩
    · simp [results, Tryd.results42, go_sem, hcc, hlt]
      rfl
    · have hB1 : Below w.heap.size w w1 := bstep (balloc (Below.refl _ _) _) hb1
      repeat (first | exact hB1 | refine Below.drew ?_ | refine bset ?_ _ _ | refine Below.alloc ?_ (by simp; omega) _)

set_option maxRecDepth 100000 in
set_option maxHeartbeats 1000000 in
theorem impl_short (s : ByteArray) (a : Int) (n p : Nat) (w : World) (hL : Laid w) (hs : (s.size : Int) ≤ 8000) (hn : (n : Int) ≤ 8000) (hq : (p : Int) ≤ s.size) (hp : (s.size : Int) < (p : Int) + (n : Int)) (K : ∀ w, Laid w → Gets 25 s a n p 0 w) : Texts 42 s a ByteArray.empty 0 4 w := by
  have HK : Hid _ := K
  clear K
  have HL : Hid (Laid w) := hL
  clear hL
  unfold Texts
  go_enter Tryd.func42, Tryd.ntmps42
  go_wp2_with (first | (go_at_call 25; refine (HK.out _ (laid_below HL.out (balloc (Below.refl _ _) _))).mono ?_; rintro e w1 ⟨rfl, hb1⟩; obtain ⟨hcc, hff⟩ := bcell hb1; have hsz := hb1.size; simp at hcc hff hsz; have hlt : w.heap.size < w1.heap.size := by omega))
  refine bodyPost_ret (v := .agg #[.string ByteArray.empty, .int .i64 0, .int .i64 4]) ?_ rfl ⟨rfl, ?_⟩
  · simp [results, Tryd.results42, go_sem, hcc, hlt]
    rfl
  · have hB1 : Below w.heap.size w w1 := bstep (balloc (Below.refl _ _) _) hb1
    repeat (first | exact hB1 | refine Below.drew ?_ | refine bset ?_ _ _ | refine Below.alloc ?_ (by simp; omega) _)

theorem empty_app (t : ByteArray) : (⟨#[]⟩ : ByteArray) ++ t = t := by
  apply ByteArray.ext; simp

set_option maxRecDepth 100000 in
set_option maxHeartbeats 1000000 in
theorem impl_ok (s : ByteArray) (a : Int) (n p : Nat) (w : World) (hL : Laid w) (hs : (s.size : Int) ≤ 8000) (hn : (n : Int) ≤ 8000) (hp : (p : Int) + (n : Int) ≤ s.size) (K : ∀ w, Laid w → Gets 25 s a n p 0 w) :
    Texts 42 s a (s.extract p (p + n)) ((p + n : Nat) : Int) 0 w := by
  have HK : Hid _ := K
  clear K
  have HL : Hid (Laid w) := hL
  clear hL
  have he := empty_app (s.extract p (p + n))
  have hz : (s.extract p (p + n)).size ≤ 10000000 := by simp [ByteArray.size_extract]; omega
  unfold Texts
  go_enter Tryd.func42, Tryd.ntmps42
  go_wp2_with (first | (go_at_call 25; refine (HK.out _ (laid_below HL.out (balloc (Below.refl _ _) _))).mono ?_; rintro e w1 ⟨rfl, hb1⟩; obtain ⟨hcc, hff⟩ := bcell hb1; have hsz := hb1.size; simp at hcc hff hsz; have hlt : w.heap.size < w1.heap.size := by omega))
  refine (Join.join_any ⟨#[]⟩ (s.extract p (p + n)) _ (by decide) hz).mono ?_
  rintro e w2 ⟨rfl, hb2⟩
  have hsz2 := hb2.size
  obtain ⟨hcc2, hff2⟩ := bcell hb2
  simp at hsz2 hcc2 hff2
  have hlt2 : w.heap.size < w1.heap.size + 1 := by omega
  go_wp2
  refine bodyPost_ret (v := .agg #[.string (s.extract p (p + n)), .int .i64 ((p + n : Nat) : Int), .int .i64 0]) ?_ rfl ⟨rfl, ?_⟩
  · simp [results, Tryd.results42, go_sem, hcc, hlt, hcc2, hlt2]
  · have hB1 : Below w.heap.size w w2 := bstep (balloc (bstep (balloc (Below.refl _ _) _) hb1) _) hb2
    repeat (first | exact hB1 | refine Below.drew ?_ | refine bset ?_ _ _ | refine Below.alloc ?_ (by simp; omega) _)

end Go.Proofs.YtjgkekgieodhnaaDoor.GetText

/- The two GetText functions give one answer. -/
namespace Go.Proofs.YtjgkekgieodhnaaDoor.GetText
open Go.RowKit Go.Proofs.YtjgkekgieodhnaaDoor.GetNum

/-- Whatever the place: one answer of both. -/
theorem both (s : ByteArray) (a : Int) (h2 : a ≤ 9223372036854775807) :
    ∃ (t : ByteArray) (p c : Int), (∀ w, Texts 21 s a t p c w) ∧ (∀ w, Laid w → Texts 42 s a t p c w) := by
  obtain ⟨n, p, c, ans, K1, K2⟩ := GetNum.both s a h2
  by_cases hc : c = 0
  · subst hc
    obtain ⟨hp0, hp1, hs⟩ := ans.ok rfl
    obtain ⟨q, rfl⟩ := Int.eq_ofNat_of_zero_le hp0
    by_cases hn : n < 0 ∨ 8000 < n
    · exact ⟨_, _, _, fun w => spec_syntax s a n q w hn K1, fun w hL => impl_syntax s a n q w hL hn K2⟩
    · obtain ⟨m, rfl⟩ := Int.eq_ofNat_of_zero_le (by omega : 0 ≤ n)
      by_cases hp : (q : Int) + (m : Int) ≤ s.size
      · exact ⟨_, _, _, fun w => spec_ok s a m q w hs (by omega) hp K1, fun w hL => impl_ok s a m q w hL hs (by omega) hp K2⟩
      · exact ⟨_, _, _, fun w => spec_short s a m q w hs (by omega) hp1 (by omega) K1, fun w hL => impl_short s a m q w hL hs (by omega) hp1 (by omega) K2⟩
  · exact ⟨_, _, _, fun w => spec_code s a n p c w hc K1, fun w hL => impl_code s a n p c w hL hc K2⟩
end Go.Proofs.YtjgkekgieodhnaaDoor.GetText

/- Seven numbers and a text read one behind the other. -/
namespace Go.Proofs.YtjgkekgieodhnaaDoor.Frm
open Go.RowKit Go.Proofs.YtjgkekgieodhnaaDoor.GetNum Go.Proofs.YtjgkekgieodhnaaDoor.GetText

/-- what both read at place a -/
structure Num (s : ByteArray) (a n p c : Int) : Prop where
  ans : Ans s n p c
  sp : ∀ w, Gets 22 s a n p c w
  im : ∀ w, Laid w → Gets 25 s a n p c w
structure Txt (s : ByteArray) (a : Int) (t : ByteArray) (c : Int) : Prop where
  none : c ≠ 0 → t = ByteArray.empty
  small : t.size ≤ 8000
  sp : ∃ p, ∀ w, Texts 21 s a t p c w
  im : ∃ p, ∀ w, Laid w → Texts 42 s a t p c w
theorem num_is (s : ByteArray) (a : Int) (h : a ≤ 9223372036854775807) : ∃ n p c, Num s a n p c := by
  obtain ⟨n, p, c, h1, h2, h3⟩ := GetNum.both s a h
  exact ⟨n, p, c, h1, h2, h3⟩
theorem txt_is (s : ByteArray) (a : Int) (h2 : a ≤ 9223372036854775807) : ∃ t c, Txt s a t c := by
  obtain ⟨n, p, c, ans, K1, K2⟩ := GetNum.both s a h2
  by_cases hc : c = 0
  · subst hc
    obtain ⟨hp0, hp1, hs⟩ := ans.ok rfl
    obtain ⟨q, rfl⟩ := Int.eq_ofNat_of_zero_le hp0
    by_cases hn : n < 0 ∨ 8000 < n
    · exact ⟨_, _, fun _ => rfl, by simp, ⟨_, fun w => spec_syntax s a n q w hn K1⟩, ⟨_, fun w hL => impl_syntax s a n q w hL hn K2⟩⟩
    · obtain ⟨m, rfl⟩ := Int.eq_ofNat_of_zero_le (by omega : 0 ≤ n)
      by_cases hp : (q : Int) + (m : Int) ≤ s.size
      · exact ⟨_, _, fun h => absurd rfl h, by rw [ByteArray.size_extract]; omega, ⟨_, fun w => spec_ok s a m q w hs (by omega) hp K1⟩, ⟨_, fun w hL => impl_ok s a m q w hL hs (by omega) hp K2⟩⟩
      · exact ⟨_, _, fun _ => rfl, by simp, ⟨_, fun w => spec_short s a m q w hs (by omega) hp1 (by omega) K1⟩, ⟨_, fun w hL => impl_short s a m q w hL hs (by omega) hp1 (by omega) K2⟩⟩
  · exact ⟨_, _, fun _ => rfl, by simp, ⟨_, fun w => spec_code s a n p c w hc K1⟩, ⟨_, fun w hL => impl_code s a n p c w hL hc K2⟩⟩

/-- the place behind the first k numbers -/
def pos (l : List (Int × Int)) (k : Nat) : Int := if k = 0 then 0 else (l.getD (k - 1) (0, 0)).2
def Run (s : ByteArray) (l : List (Int × Int)) : Prop := ∀ k (h : k < l.length), Num s (pos l k) l[k].1 l[k].2 0
theorem pos_bd {s : ByteArray} {l : List (Int × Int)} (h : Run s l) (hs : s.size ≤ 8000) (k : Nat) (hk : k ≤ l.length) : 0 ≤ pos l k ∧ pos l k ≤ 8000 := by
  unfold pos
  split
  · omega
  · have h1 : k - 1 < l.length := by omega
    have h2 := (h (k - 1) h1).ans.ok rfl
    have e : l.getD (k - 1) (0, 0) = l[k - 1] := by simp [List.getD, h1]
    rw [e]; omega
theorem run_is (s : ByteArray) (hs : s.size ≤ 8000) : ∀ k, ∃ l, Run s l ∧ (l.length = k ∨ (l.length < k ∧ ∃ n p c, Num s (pos l l.length) n p c ∧ c ≠ 0))
  | 0 => ⟨[], fun k h => by simp at h, .inl rfl⟩
  | k + 1 => by
    obtain ⟨l, hr, h | ⟨h, n, p, c, hn, hc⟩⟩ := run_is s hs k
    · obtain ⟨n, p, c, hn⟩ := num_is s (pos l l.length) (by have := pos_bd hr hs l.length (Nat.le_refl _); omega)
      by_cases hc : c = 0
      · subst hc
        refine ⟨l ++ [(n, p)], fun j hj => ?_, .inl (by simp [h])⟩
        have hj2 : j < l.length + 1 := by simpa using hj
        have hpos : pos (l ++ [(n, p)]) j = pos l j := by
          unfold pos
          split
          · rfl
          · have : j - 1 < l.length := by omega
            simp [List.getD, List.getElem?_append_left this]
        rw [hpos]
        rcases Nat.lt_or_ge j l.length with h1 | h1
        · have e : (l ++ [(n, p)])[j] = l[j] := by simp [List.getElem_append_left h1]
          rw [e]; exact hr j h1
        · obtain rfl : j = l.length := by omega
          have e : (l ++ [(n, p)])[l.length] = (n, p) := by simp
          rw [e]; exact hn
      · exact ⟨l, hr, .inr ⟨by omega, n, p, c, hn, hc⟩⟩
    · exact ⟨l, hr, .inr ⟨by omega, n, p, c, hn, hc⟩⟩
/-- the value of the number k, 0 where none is read -/
def valAt (l : List (Int × Int)) (k : Nat) : Int := (l.getD k (0, 0)).1
def atAt (l : List (Int × Int)) (k : Nat) : Int := pos l (min k l.length)
def badAt (l : List (Int × Int)) (k : Nat) : Bool := decide (l.length < k)
/-- what is known at each of the seven -/
structure Sev (s : ByteArray) (l : List (Int × Int)) : Prop where
  run : Run s l
  end_ : l.length = 7 ∨ (l.length < 7 ∧ ∃ n p c, Num s (pos l l.length) n p c ∧ c ≠ 0)
theorem sev_is (s : ByteArray) (hs : s.size ≤ 8000) : ∃ l, Sev s l := by
  obtain ⟨l, h1, h2⟩ := run_is s hs 7
  exact ⟨l, h1, h2⟩
theorem Sev.at {s : ByteArray} {l : List (Int × Int)} (h : Sev s l) (k : Nat) (hk : k < 7) : ∃ n p c, Num s (atAt l k) n p c ∧ (k < l.length → n = valAt l k ∧ p = atAt l (k + 1) ∧ c = 0) ∧ (l.length ≤ k → c ≠ 0 ∧ valAt l k = 0 ∧ atAt l (k + 1) = atAt l k) := by
  rcases Nat.lt_or_ge k l.length with h1 | h1
  · have hn := h.run k h1
    have e1 : atAt l k = pos l k := by unfold atAt; rw [Nat.min_eq_left (by omega)]
    have e2 : valAt l k = l[k].1 := by simp [valAt, List.getD, h1]
    have e3 : atAt l (k + 1) = l[k].2 := by
      unfold atAt
      rw [Nat.min_eq_left (by omega)]
      simp [pos, List.getD, h1]
    rw [e1]
    exact ⟨_, _, _, hn, fun _ => ⟨e2.symm, e3.symm, rfl⟩, fun h2 => by omega⟩
  · rcases h.end_ with h2 | ⟨h2, n, p, c, hn, hc⟩
    · omega
    · have e1 : atAt l k = pos l l.length := by unfold atAt; rw [Nat.min_eq_right h1]
      have e3 : atAt l (k + 1) = pos l l.length := by unfold atAt; rw [Nat.min_eq_right (by omega)]
      rw [e1]
      refine ⟨n, p, c, hn, fun h3 => by omega, fun _ => ⟨hc, ?_, e3⟩⟩
      simp [valAt, List.getD, List.getElem?_eq_none h1]
end Go.Proofs.YtjgkekgieodhnaaDoor.Frm

/- Numbers come back from their bytes; of bytes that end too early nothing comes. -/
namespace Go.Proofs.YtjgkekgieodhnaaDoor.NumRound
open Go.Proofs.YtjgkekgieodhnaaDoor.GetNum Go.Proofs.YtjgkekgieodhnaaDoor.PutNum

theorem at_list (s : ByteArray) (i : Nat) : s[i]?.getD 0 = s.data.toList[i]?.getD 0 := by
  by_cases h : i < s.size
  · have h' : i < s.data.toList.length := h
    rw [getElem?_pos s i h, List.getElem?_eq_getElem h']; rfl
  · have h' : s.data.toList.length ≤ i := Nat.le_of_not_lt h
    rw [getElem?_neg s i h, List.getElem?_eq_none h']

theorem unfold_fold (n : Int) : unfoldI (foldN n) = n := by
  unfold unfoldI foldN
  by_cases h : n < 0
  · rw [if_pos h]
    split <;> omega
  · rw [if_neg h]
    split <;> omega

theorem pow_step (k : Nat) : 2 ^ (7 * (k + 1)) = 128 * 2 ^ (7 * k) := by rw [Nat.mul_add, Nat.pow_add, Nat.mul_comm]

theorem split_val (v X : Nat) : v % 128 * X + v / 128 * (128 * X) = v * X := by
  have h : v % 128 + v / 128 * 128 = v := Nat.mod_add_div' v 128
  rw [← Nat.mul_assoc, ← Nat.add_mul, h]

/-- Where the bytes of v stand from place p + k on, they are read. -/
theorem rdK_put (s : ByteArray) (p : Nat) : ∀ (f k v acc : Nat), k + f = 9 → v < 128 ^ (f + 1) → (k = 0 ∨ 1 ≤ v) → (k = 9 → v ≤ 1) →
    (∀ f' k' v', k' + f' = 9 → v' * 128 ^ k' < 18446744073709551616 → k' = 9 → v' ≤ 1) →
    v * 128 ^ k < 18446744073709551616 →
    p + k + (putF f v).length ≤ s.size → (∀ i, i < (putF f v).length → s[p + k + i]?.getD 0 = (putF f v)[i]?.getD 0) →
    rdK s p (10 - k) k acc = (0, acc + v * 2 ^ (7 * k), p + k + (putF f v).length)
  | f, k, v, acc, hkf, hv, hk, h9, haux, hb, hsz, hby => by
    rw [show 10 - k = (9 - k) + 1 by omega, rdK]
    by_cases hlt : v < 128
    · have hp : putF f v = [UInt8.ofNat v] := putF_small hlt f
      rw [hp] at hsz hby ⊢
      have h0 := hby 0 (by simp)
      have hc : (s[p + k]?.getD 0).toNat = v := by
        have e : s[p + k]?.getD 0 = UInt8.ofNat v := by simpa using h0
        rw [e]; simp; omega
      simp only [List.length_cons, List.length_nil] at hsz ⊢
      rw [if_neg (by omega), hc, if_neg (by omega), if_pos hlt, if_neg (by omega)]
    · cases f with
      | zero => rw [Nat.zero_add, Nat.pow_one] at hv; omega
      | succ g =>
        have hp : putF (g + 1) v = UInt8.ofNat (v % 128 + 128) :: putF g (v / 128) := putF_great (by omega)
        rw [hp] at hsz hby ⊢
        have h0 := hby 0 (by simp)
        have hc : (s[p + k]?.getD 0).toNat = v % 128 + 128 := by
          have e : s[p + k]?.getD 0 = UInt8.ofNat (v % 128 + 128) := by simpa using h0
          rw [e]; simp; omega
        simp only [List.length_cons] at hsz ⊢
        rw [if_neg (by omega), hc, if_neg (by omega), if_neg (by omega), show v % 128 + 128 - 128 = v % 128 by omega, show 9 - k = 10 - (k + 1) by omega]
        have hdiv : v / 128 < 128 ^ (g + 1) := by
          rw [Nat.pow_succ] at hv
          exact Nat.div_lt_of_lt_mul (by rw [Nat.mul_comm]; exact hv)
        have hb2 : v / 128 * 128 ^ (k + 1) < 18446744073709551616 := by
          refine Nat.lt_of_le_of_lt ?_ hb
          rw [Nat.pow_succ, Nat.mul_comm (128 ^ k) 128, ← Nat.mul_assoc]
          exact Nat.mul_le_mul_right _ (Nat.div_mul_le_self v 128)
        have ih := rdK_put s p g (k + 1) (v / 128) (acc + v % 128 * 2 ^ (7 * k)) (by omega) hdiv (.inr (by omega)) (fun e => haux g (k + 1) (v / 128) (by omega) hb2 e) haux hb2 (by omega) (fun i hi => by
          have := hby (i + 1) (by simp; omega)
          rw [show p + k + (i + 1) = p + (k + 1) + i by omega] at this
          simpa using this)
        rw [ih, pow_step, Nat.add_assoc, split_val]
        simp only [Prod.mk.injEq, true_and]
        omega

theorem aux9 (f' k' v' : Nat) (_ : k' + f' = 9) (h : v' * 128 ^ k' < 18446744073709551616) (e : k' = 9) : v' ≤ 1 := by
  subst e
  have : 128 ^ 9 = 9223372036854775808 := by decide
  rw [this] at h
  omega

theorem rd_put (s : ByteArray) (p u : Nat) (hu : u < 18446744073709551616) (hsz : p + (putF 9 u).length ≤ s.size) (hby : ∀ i, i < (putF 9 u).length → s[p + i]?.getD 0 = (putF 9 u)[i]?.getD 0) :
    rd s p = (0, u, p + (putF 9 u).length) := by
  have := rdK_put s p 9 0 u 0 rfl (Nat.lt_of_lt_of_le hu (by decide)) (.inl rfl) (by omega) aux9 (by simpa using hu) (by simpa using hsz) (by simpa using hby)
  unfold rd
  simpa using this

/-- Where the last of the bytes is not there any more, nothing is read. -/
theorem rdK_cut (s : ByteArray) (p : Nat) : ∀ (f k v acc : Nat), k + f = 9 → v < 128 ^ (f + 1) → s.size + 1 = p + k + (putF f v).length → (∀ i, i + 1 < (putF f v).length → s[p + k + i]?.getD 0 = (putF f v)[i]?.getD 0) →
    rdK s p (10 - k) k acc = (4, 0, 0)
  | f, k, v, acc, hkf, hv, hsz, hby => by
    rw [show 10 - k = (9 - k) + 1 by omega, rdK]
    by_cases hlt : v < 128
    · have hp : putF f v = [UInt8.ofNat v] := putF_small hlt f
      rw [hp] at hsz
      simp only [List.length_cons, List.length_nil] at hsz
      rw [if_pos (by omega)]
    · cases f with
      | zero => rw [Nat.zero_add, Nat.pow_one] at hv; omega
      | succ g =>
        have hp : putF (g + 1) v = UInt8.ofNat (v % 128 + 128) :: putF g (v / 128) := putF_great (by omega)
        have hl := (length_putF g (v / 128)).1
        rw [hp] at hsz hby
        simp only [List.length_cons] at hsz hby
        have h0 := hby 0 (by omega)
        have hc : (s[p + k]?.getD 0).toNat = v % 128 + 128 := by
          have e : s[p + k]?.getD 0 = UInt8.ofNat (v % 128 + 128) := by simpa using h0
          rw [e]; simp; omega
        rw [if_neg (by omega), hc, if_neg (by omega), if_neg (by omega), show 9 - k = 10 - (k + 1) by omega]
        have hdiv : v / 128 < 128 ^ (g + 1) := by
          rw [Nat.pow_succ] at hv
          exact Nat.div_lt_of_lt_mul (by rw [Nat.mul_comm]; exact hv)
        exact rdK_cut s p g (k + 1) (v / 128) _ (by omega) hdiv (by omega) (fun i hi => by
          have := hby (i + 1) (by omega)
          rw [show p + k + (i + 1) = p + (k + 1) + i by omega] at this
          simpa using this)

theorem rd_cut (s : ByteArray) (p u : Nat) (hu : u < 18446744073709551616) (hsz : s.size + 1 = p + (putF 9 u).length) (hby : ∀ i, i + 1 < (putF 9 u).length → s[p + i]?.getD 0 = (putF 9 u)[i]?.getD 0) : rd s p = (4, 0, 0) :=
  rdK_cut s p 9 0 u 0 rfl (Nat.lt_of_lt_of_le hu (by decide)) (by simpa using hsz) (by simpa using hby)
end Go.Proofs.YtjgkekgieodhnaaDoor.NumRound

/- A tree read from a text: what both sides read, as functions of the text. -/
namespace Go.Proofs.YtjgkekgieodhnaaDoor.Tre
open Go.RowKit Go.Proofs.YtjgkekgieodhnaaDoor.GetNum Go.Proofs.YtjgkekgieodhnaaDoor.GetText Go.Proofs.YtjgkekgieodhnaaDoor.Frm Go.Proofs.YtjgkekgieodhnaaDoor.PutNum Go.Proofs.YtjgkekgieodhnaaDoor.NumRound

structure NumX (s : ByteArray) (a n p c : Int) : Prop where
  num : Num s a n p c
  no : c ≠ 0 → n = 0
  ok : 0 ≤ p ∧ p ≤ 8000
  rd : ∀ u q : Nat, a = 0 → (s.size : Int) ≤ 8000 → GetNum.rd s 0 = (0, u, q) → n = unfoldI u ∧ c = 0
theorem numX_is (s : ByteArray) (a : Int) (h2 : a ≤ 9223372036854775807) : ∃ n p c, NumX s a n p c := by
  by_cases hs : 8000 < (s.size : Int)
  · exact ⟨0, 0, 2, ⟨⟨by omega, by omega, fun h => by omega⟩, fun w => specGetNum_big s a w hs, fun w _ => implGetNum_big s a w hs⟩, fun _ => rfl, by omega, fun u q _ h => by omega⟩
  · have hs' : (s.size : Int) ≤ 8000 := by omega
    by_cases ha : a < 0
    · exact ⟨0, 0, 1, ⟨⟨by omega, by omega, fun h => by omega⟩, fun w => specGetNum_neg s a w hs' ha, fun w hL => implGetNum_code s a w 1 hs' hL (fun w => readNum_neg s a w ha)⟩, fun _ => rfl, by omega, fun u q h => by omega⟩
    · obtain ⟨m, rfl⟩ := Int.eq_ofNat_of_zero_le (by omega : 0 ≤ a)
      rcases rd_cases s m with ⟨y, q, hr, hy, hq⟩ | hr | hr
      · have hb := unfold_bd hy
        refine ⟨unfoldI y, (q : Nat), 0, ⟨⟨hb.1, hb.2, fun _ => ⟨by omega, by omega, hs'⟩⟩, fun w => ?_, fun w _ => ?_⟩, fun h => absurd rfl h, by omega, fun u q' h _ hrd => ?_⟩
        · have := specGetNum_in s m w hs' h2
          rwa [outV_ok hr] at this
        · refine implGetNum_ok s m w y q hs' (by omega) (fun w => ?_)
          have := readNum_in s m w hs' h2
          rwa [readV_ok hr] at this
        · obtain rfl : m = 0 := by omega
          rw [hr] at hrd
          injection hrd with _ h3
          injection h3 with h3 _
          rw [h3]; exact ⟨rfl, rfl⟩
      all_goals
        have hne : (GetNum.rd s m).1 ≠ 0 := by rw [hr]; decide
        refine ⟨0, 0, ((GetNum.rd s m).1 : Nat), ⟨⟨by omega, by omega, fun h => by omega⟩, fun w => ?_, fun w hL => ?_⟩, fun _ => rfl, by omega, fun u q' h _ hrd => ?_⟩
        · have := specGetNum_in s m w hs' h2
          unfold outV at this
          rwa [if_neg hne] at this
        · refine implGetNum_code s m w (GetNum.rd s m).1 hs' hL (fun w => ?_)
          have := readNum_in s m w hs' h2
          rwa [readV_code hne] at this
        · obtain rfl : m = 0 := by omega
          rw [hrd] at hne; exact absurd rfl hne
structure TxtX (s : ByteArray) (a : Int) (t : ByteArray) (p c : Int) : Prop where
  none : c ≠ 0 → t = ByteArray.empty
  small : t.size ≤ 8000
  ok : 0 ≤ p ∧ p ≤ 8000
  sp : ∀ w, Texts 21 s a t p c w
  im : ∀ w, Laid w → Texts 42 s a t p c w
theorem txtX_is (s : ByteArray) (a : Int) (h2 : a ≤ 9223372036854775807) : ∃ t p c, TxtX s a t p c := by
  obtain ⟨n, p, c, ans, K1, K2⟩ := GetNum.both s a h2
  by_cases hc : c = 0
  · subst hc
    obtain ⟨hp0, hp1, hs⟩ := ans.ok rfl
    obtain ⟨q, rfl⟩ := Int.eq_ofNat_of_zero_le hp0
    by_cases hn : n < 0 ∨ 8000 < n
    · exact ⟨_, _, _, fun _ => rfl, by simp, by omega, fun w => spec_syntax s a n q w hn K1, fun w hL => impl_syntax s a n q w hL hn K2⟩
    · obtain ⟨m, rfl⟩ := Int.eq_ofNat_of_zero_le (by omega : 0 ≤ n)
      by_cases hp : (q : Int) + (m : Int) ≤ s.size
      · exact ⟨_, _, _, fun h => absurd rfl h, by rw [ByteArray.size_extract]; omega, by omega, fun w => spec_ok s a m q w hs (by omega) hp K1, fun w hL => impl_ok s a m q w hL hs (by omega) hp K2⟩
      · exact ⟨_, _, _, fun _ => rfl, by simp, by omega, fun w => spec_short s a m q w hs (by omega) hp1 (by omega) K1, fun w hL => impl_short s a m q w hL hs (by omega) hp1 (by omega) K2⟩
  · exact ⟨_, _, _, fun _ => rfl, by simp, by omega, fun w => spec_code s a n p c w hc K1, fun w hL => impl_code s a n p c w hL hc K2⟩

theorem gN_is (s : ByteArray) (a : Int) : ∃ x : Int × Int × Int, a ≤ 9223372036854775807 → NumX s a x.1 x.2.1 x.2.2 := by
  by_cases h : a ≤ 9223372036854775807
  · obtain ⟨n, p, c, k⟩ := numX_is s a h
    exact ⟨(n, p, c), fun _ => k⟩
  · exact ⟨(0, 0, 0), fun h2 => absurd h2 h⟩
noncomputable def gN (s : ByteArray) (a : Int) : Int × Int × Int := Classical.choose (gN_is s a)
theorem gN_spec (s : ByteArray) (a : Int) (h : a ≤ 9223372036854775807) : NumX s a (gN s a).1 (gN s a).2.1 (gN s a).2.2 := Classical.choose_spec (gN_is s a) h
theorem gT_is (s : ByteArray) (a : Int) : ∃ x : ByteArray × Int × Int, a ≤ 9223372036854775807 → TxtX s a x.1 x.2.1 x.2.2 := by
  by_cases h : a ≤ 9223372036854775807
  · obtain ⟨n, p, c, k⟩ := txtX_is s a h
    exact ⟨(n, p, c), fun _ => k⟩
  · exact ⟨(ByteArray.empty, 0, 0), fun h2 => absurd h2 h⟩
noncomputable def gT (s : ByteArray) (a : Int) : ByteArray × Int × Int := Classical.choose (gT_is s a)
theorem gT_spec (s : ByteArray) (a : Int) (h : a ≤ 9223372036854775807) : TxtX s a (gT s a).1 (gT s a).2.1 (gT s a).2.2 := Classical.choose_spec (gT_is s a) h

/-- a file's three parts from place a on: the file, the place behind it, whether all are there -/
noncomputable def fF (s : ByteArray) (a : Int) : Fl := ⟨(gT s a).1, (gN s (gT s a).2.1).1, (gT s (gN s (gT s a).2.1).2.1).1⟩
noncomputable def fP (s : ByteArray) (a : Int) : Int := (gT s (gN s (gT s a).2.1).2.1).2.1
noncomputable def fOk (s : ByteArray) (a : Int) : Bool := decide ((gT s a).2.2 = 0) && decide ((gN s (gT s a).2.1).2.2 = 0) && decide ((gT s (gN s (gT s a).2.1).2.1).2.2 = 0)
/-- so many files from place a on -/
noncomputable def rdFs (s : ByteArray) : Nat → Int → Option (List Fl)
  | 0, _ => some []
  | m + 1, a => if fOk s a then (rdFs s m (fP s a)).map (fF s a :: ·) else none
theorem rdFs_len {s : ByteArray} : ∀ {m : Nat} {a : Int} {l : List Fl}, rdFs s m a = some l → l.length = m
  | 0, a, l, h => by simp [rdFs] at h; subst h; rfl
  | m + 1, a, l, h => by
    unfold rdFs at h
    split at h
    · cases h2 : rdFs s m (fP s a) with
      | none => rw [h2] at h; cases h
      | some l2 =>
        rw [h2] at h
        simp at h
        subst h
        simp [rdFs_len h2]
    · cases h
noncomputable def implL (s : ByteArray) : List Fl := if (gN s 0).1 < 0 then [] else (rdFs s (min (gN s 0).1.toNat 6) (gN s 0).2.1).getD []
noncomputable def specL (s : ByteArray) : Option (List Fl) := if (gN s 0).2.2 = 0 ∧ 0 ≤ (gN s 0).1 ∧ (gN s 0).1 ≤ 6 then rdFs s (gN s 0).1.toNat (gN s 0).2.1 else none
noncomputable def okL (s : ByteArray) : Bool := treeR (implL s) && (treeB (implL s)).toList == s.toList
noncomputable def outL (s : ByteArray) : List Fl := if okL s then implL s else []
noncomputable def outC (s : ByteArray) : Int := if okL s then 0 else 3
theorem head_num (l : List Fl) (hl : l.length ≤ 6) : GetNum.rd (treeB l) 0 = (0, foldN (l.length : Nat), (numB (l.length : Nat)).size) := by
  have e : treeB l = numB (l.length : Nat) ++ catB (filesT l) := rfl
  have hl2 : (numB (l.length : Nat)).data.toList = putF 9 (foldN (l.length : Nat)) := rfl
  have hz : (numB (l.length : Nat)).size = (putF 9 (foldN (l.length : Nat))).length := by rw [← hl2]; rfl
  have := rd_put (treeB l) 0 (foldN (l.length : Nat)) (foldN_lt _ (by omega) (by omega)) (by rw [e, ByteArray.size_append, hz]; omega) (fun i hi => by
    have hd : (treeB l).data.toList = (numB (l.length : Nat)).data.toList ++ (catB (filesT l)).data.toList := by rw [e]; simp
    rw [Nat.zero_add, NumRound.at_list, hd, hl2, List.getElem?_append_left hi])
  rw [this, hz, Nat.zero_add]
/-- Where the program takes what it read, the number at the beginning says how many. -/
theorem head_ok {s : ByteArray} (hs : s.size ≤ 8000) (h : okL s = true) : (gN s 0).1 = ((implL s).length : Nat) ∧ (gN s 0).2.2 = 0 := by
  unfold okL at h
  simp only [Bool.and_eq_true, beq_iff_eq] at h
  have e : treeB (implL s) = s := ByteArray.ext (Array.ext' (by rw [← Lib.toList_data, ← Lib.toList_data, h.2]))
  have h6 := treeR_le h.1
  have hr := head_num (implL s) h6
  rw [e] at hr
  have := (gN_spec s 0 (by omega)).rd _ _ rfl (by omega) hr
  rw [unfold_fold] at this
  exact this
theorem both_L {s : ByteArray} (hs : s.size ≤ 8000) (h : okL s = true) : specL s = some (implL s) := by
  obtain ⟨h1, h2⟩ := head_ok hs h
  have h6 : (implL s).length ≤ 6 := by
    unfold okL at h; simp only [Bool.and_eq_true] at h; exact treeR_le h.1
  unfold specL
  rw [if_pos ⟨h2, by omega, by omega⟩]
  have e : implL s = (rdFs s (min (gN s 0).1.toNat 6) (gN s 0).2.1).getD [] := by
    unfold implL; rw [if_neg (by omega)]
  have e2 : min (gN s 0).1.toNat 6 = (gN s 0).1.toNat := by omega
  rw [e2] at e
  cases h3 : rdFs s (gN s 0).1.toNat (gN s 0).2.1 with
  | some l => rw [h3] at e; rw [e]; rfl
  | none =>
    rw [h3] at e
    have e3 : (implL s).length = 0 := by rw [e]; rfl
    have e4 : (gN s 0).1.toNat = 0 := by omega
    rw [e4] at h3
    simp [rdFs] at h3
/-- What the model takes, the program takes. -/
theorem spec_L {s : ByteArray} {l : List Fl} (h : specL s = some l) : implL s = l := by
  unfold specL at h
  split at h
  · rename_i hc
    unfold implL
    rw [if_neg (by omega), show min (gN s 0).1.toNat 6 = (gN s 0).1.toNat by omega, h]; rfl
  · cases h
end Go.Proofs.YtjgkekgieodhnaaDoor.Tre

/- What the model's reader of numbers answers. -/
namespace Go.Proofs.YtjgkekgieodhnaaDoor.Frm
open Go.RowKit Go.Proofs.YtjgkekgieodhnaaDoor.Mem Go.Proofs.YtjgkekgieodhnaaDoor.Gf Go.Proofs.YtjgkekgieodhnaaDoor.Harn Go.Proofs.YtjgkekgieodhnaaDoor.Disk Go.Proofs.YtjgkekgieodhnaaDoor.GetText

/-- the reader's three cells -/
def Rdr (W : World) (R : Nat) (s : ByteArray) (a : Int) (b : Bool) : Prop := HasRow W R [.string s, .int .i64 a, .bool b] 34
theorem Rdr.cells {W : World} {R : Nat} {s : ByteArray} {a : Int} {b : Bool} (h : Rdr W R s a b) : W.cell? ⟨R, 0, none⟩ = some (.string s) ∧ W.cell? ⟨R, 1, none⟩ = some (.int .i64 a) ∧ W.cell? ⟨R, 2, none⟩ = some (.bool b) ∧ ∀ o, W.frozen? ⟨R, o, none⟩ = false := ⟨Mem.cell_of_row h 0, Mem.cell_of_row h 1, Mem.cell_of_row h 2, Mem.frozen_of_row h⟩
theorem Rdr.lt {W : World} {R : Nat} {s : ByteArray} {a : Int} {b : Bool} (h : Rdr W R s a b) : R < W.heap.size := World.block_lt_of_cell? W ⟨R, 0, none⟩ h.cells.1
theorem Rdr.below {W W' : World} {R B : Nat} {s : ByteArray} {a : Int} {b : Bool} (h : Rdr W R s a b) (hb : Below B W W') (hR : R < B) : Rdr W' R s a b := Sha.row_below h hb hR
theorem only_setR {p : Nat → Prop} {w : World} {b o : Nat} {v : Value} (hp : p b) : Only p w (w.setCell ⟨b, o, none⟩ v) := ⟨rfl, rfl, rfl, by simp, fun k _ hk => Below.heap_setCell _ _ _ _ (fun e => hk (by simp only at e; subst e; exact hp))⟩

/-- the worlds that a call may be made in, ahead of which one box was made or none -/
class From (w a : World) : Prop where
  bel : Below w.heap.size w a
instance (w : World) : From w w := ⟨Below.refl _ _⟩
instance (w : World) : From w w.drew := ⟨bD' (Below.refl _ _)⟩
instance (w : World) (o : Obj) : From w (w.alloc o) := ⟨balloc (Below.refl _ _) o⟩
instance (w : World) (o : Obj) : From w (w.alloc o).drew := ⟨bD' (balloc (Below.refl _ _) o)⟩
instance (w : World) (o : Obj) : From w (w.drew.alloc o) := ⟨balloc (bD' (Below.refl _ _)) o⟩
theorem below_in {w a w1 : World} [h : From w a] (hb : Below a.heap.size a w1) : Below w.heap.size w w1 := bstep h.bel hb
class Boxed (w a : World) : Prop where
  row : HasRow a w.heap.size [.int .i64 0, .int .i64 0, .int .i64 0] 50
instance (w : World) : Boxed w (w.alloc (.cells #[.int .i64 0, .int .i64 0, .int .i64 0] 50)) := ⟨Sha.row_new w [.int .i64 0, .int .i64 0, .int .i64 0] _⟩
instance (w : World) : Boxed w (w.alloc (.cells #[.int .i64 0, .int .i64 0, .int .i64 0] 50)).drew := ⟨Sha.row_new w [.int .i64 0, .int .i64 0, .int .i64 0] _⟩
instance (w : World) : Boxed w (w.drew.alloc (.cells #[.int .i64 0, .int .i64 0, .int .i64 0] 50)) := ⟨Sha.row_new w [.int .i64 0, .int .i64 0, .int .i64 0] _⟩
theorem row_in {w a w1 : World} [h : Boxed w a] (hb : Below a.heap.size a w1) : HasRow w1 w.heap.size [.int .i64 0, .int .i64 0, .int .i64 0] 50 := Sha.row_below h.row hb (World.block_lt_of_cell? a ⟨w.heap.size, 0, none⟩ (Mem.cell_of_row h.row 0))
theorem shutN {p : Prop} (h : p) : Hid p := h
set_option maxRecDepth 100000 in
set_option maxHeartbeats 2000000 in
theorem num_any (R : Nat) (s : ByteArray) (a n p c : Int) (b : Bool) (w : World) (hr : Rdr w R s a b) (hn : Num s a n p c) :
    Calls Tryd.prog 12 #[.pointer (some ⟨R, 0, none⟩)] w fun e w' => e = .returned (.int .i64 (if b = false ∧ c = 0 then n else 0)) ∧ Rdr w' R s (if b = false ∧ c = 0 then p else a) (b || decide (c ≠ 0)) ∧ Only (fun k => k = R) w w' := by
  obtain ⟨N0, hN0⟩ : ∃ N0, N0 = (if b = false ∧ c = 0 then n else 0) := ⟨_, rfl⟩
  obtain ⟨A0, hA0⟩ : ∃ A0, A0 = (if b = false ∧ c = 0 then p else a) := ⟨_, rfl⟩
  obtain ⟨B0, hB0⟩ : ∃ B0, B0 = (b || decide (c ≠ 0)) := ⟨_, rfl⟩
  rw [← hN0, ← hA0, ← hB0]
  have HN0 : Hid _ := hN0
  have HA0 : Hid _ := hA0
  have HB0 : Hid _ := hB0
  clear hN0 hA0 hB0
  obtain ⟨c0, c1, c2, cf⟩ := hr.cells
  have hR := hr.lt
  have HR : Hid (Rdr w R s a b) := hr
  have HG : Hid (∀ W, Gets 22 s a n p c W) := hn.sp
  clear hr hn
  go_enter Tryd.func12, Tryd.ntmps12
  go_upto_region 1 with fail
  go_cut [3] (fun bv wx => ∃ B, bv = .pointer (some ⟨B, 0, none⟩) ∧ HasRow wx B [.int .i64 n, .int .i64 p, .int .i64 c] 50 ∧ w.heap.size ≤ B ∧ Below w.heap.size w wx)
  case first =>
    go_region_with (go_at_call 22; refine (HG.out _).mono ?_; rintro e w1 ⟨rfl, hb1⟩; obtain ⟨hcc, hff⟩ := bcell hb1; simp at hcc hff; have hz1 := hb1.size; simp at hz1; have HBW := shutN (below_in (w := w) hb1); (first | (have HX := shutN (row_in (w := w) hb1)) | skip); clear hb1)
    all_goals
      go_wp2
      go_meet
      first
        | exact ⟨w.heap.size, rfl, row_set (row_set (row_set HX.out 0 (.int .i64 n)) 1 (.int .i64 p)) 2 (.int .i64 c), Nat.le_refl _, ((HBW.out.setCell (p := ⟨w.heap.size, 0, none⟩) (Nat.le_refl _) _).setCell (p := ⟨w.heap.size, 1, none⟩) (Nat.le_refl _) _).setCell (p := ⟨w.heap.size, 2, none⟩) (Nat.le_refl _) _⟩
        | exact ⟨w1.heap.size, rfl, Sha.row_new w1 [.int .i64 n, .int .i64 p, .int .i64 c] _, by omega, balloc HBW.out _⟩
  case rest =>
  obtain ⟨B, rfl, hrow, hB, hbw⟩ := hcut
  have HRC : Hid (Rdr wc R s a b) := HR.out.below hbw hR
  obtain ⟨k0, k1, k2, kf⟩ := HRC.out.cells
  have m0 : wc.cell? ⟨B, 0, none⟩ = some (.int .i64 n) := Mem.cell_of_row hrow 0
  have m1 : wc.cell? ⟨B, 1, none⟩ = some (.int .i64 p) := Mem.cell_of_row hrow 1
  have m2 : wc.cell? ⟨B, 2, none⟩ = some (.int .i64 c) := Mem.cell_of_row hrow 2
  have HO : Hid (Only (fun k => k = R) w wc) := Only.of_below _ hbw
  have hne : ¬ R = B := by omega
  clear hrow hbw HG HR c0 c1 c2 cf
  cases b
  · by_cases hc : c = 0
    · have HC : Hid (N0 = n ∧ A0 = p ∧ B0 = false) := ⟨by rw [HN0.out]; simp [hc], by rw [HA0.out]; simp [hc], by rw [HB0.out]; simp [hc]⟩
      subst hc
      go_wp2
      go_ret
      exact ⟨PutNum.ret_int HC.out.1.symm, by rw [HC.out.2.1, HC.out.2.2]; exact row_set HRC.out 1 (.int .i64 p), HO.out.trans (only_setR rfl)⟩
    · have e1 : (c != 0) = true := bne_iff_ne.2 hc
      have HC : Hid (N0 = 0 ∧ A0 = a ∧ B0 = true) := ⟨by rw [HN0.out]; simp [hc], by rw [HA0.out]; simp [hc], by rw [HB0.out]; simp [hc]⟩
      go_wp2
      go_ret
      exact ⟨PutNum.ret_int HC.out.1.symm, by rw [HC.out.2.1, HC.out.2.2]; exact row_set HRC.out 2 (.bool true), HO.out.trans (only_setR rfl)⟩
  · have HC : Hid (N0 = 0 ∧ A0 = a ∧ B0 = true) := ⟨by rw [HN0.out]; simp, by rw [HA0.out]; simp, by rw [HB0.out]; simp⟩
    go_wp2
    go_ret
    exact ⟨PutNum.ret_int HC.out.1.symm, by rw [HC.out.2.1, HC.out.2.2]; exact row_set HRC.out 2 (.bool true), HO.out.trans (only_setR rfl)⟩

class BoxedT (w a : World) : Prop where
  row : HasRow a w.heap.size [.string ByteArray.empty, .int .i64 0, .int .i64 0] 47
instance (w : World) : BoxedT w (w.alloc (.cells #[.string { data := #[] }, .int .i64 0, .int .i64 0] 47)) := ⟨Sha.row_new w [.string ByteArray.empty, .int .i64 0, .int .i64 0] _⟩
instance (w : World) : BoxedT w (w.alloc (.cells #[.string { data := #[] }, .int .i64 0, .int .i64 0] 47)).drew := ⟨Sha.row_new w [.string ByteArray.empty, .int .i64 0, .int .i64 0] _⟩
instance (w : World) : BoxedT w (w.drew.alloc (.cells #[.string { data := #[] }, .int .i64 0, .int .i64 0] 47)) := ⟨Sha.row_new w [.string ByteArray.empty, .int .i64 0, .int .i64 0] _⟩
theorem row_inT {w a w1 : World} [h : BoxedT w a] (hb : Below a.heap.size a w1) : HasRow w1 w.heap.size [.string ByteArray.empty, .int .i64 0, .int .i64 0] 47 := Sha.row_below h.row hb (World.block_lt_of_cell? a ⟨w.heap.size, 0, none⟩ (Mem.cell_of_row h.row 0))

set_option maxRecDepth 100000 in
set_option maxHeartbeats 2000000 in
theorem text_any (R : Nat) (s : ByteArray) (a : Int) (t : ByteArray) (c : Int) (b : Bool) (w : World) (hr : Rdr w R s a b) (hn : Txt s a t c) :
    Calls Tryd.prog 11 #[.pointer (some ⟨R, 0, none⟩)] w fun e w' => e = .returned (.string (if b = false then t else ByteArray.empty)) ∧ (∃ a', Rdr w' R s a' (b || decide (c ≠ 0))) ∧ Only (fun k => k = R) w w' := by
  obtain ⟨N0, hN0⟩ : ∃ N0, N0 = (if b = false then t else ByteArray.empty) := ⟨_, rfl⟩
  obtain ⟨B0, hB0⟩ : ∃ B0, B0 = (b || decide (c ≠ 0)) := ⟨_, rfl⟩
  rw [← hN0, ← hB0]
  have HN0 : Hid _ := hN0
  have HB0 : Hid _ := hB0
  clear hN0 hB0
  obtain ⟨c0, c1, c2, cf⟩ := hr.cells
  have hR := hr.lt
  have HR : Hid (Rdr w R s a b) := hr
  obtain ⟨p, hsp⟩ := hn.sp
  have HG : Hid (∀ W, Texts 21 s a t p c W) := hsp
  have HNO : Hid (c ≠ 0 → t = ByteArray.empty) := hn.none
  clear hr hn hsp
  go_enter Tryd.func11, Tryd.ntmps11
  go_upto_region 1 with fail
  go_cut [3] (fun bv wx => ∃ B, bv = .pointer (some ⟨B, 0, none⟩) ∧ HasRow wx B [.string t, .int .i64 p, .int .i64 c] 47 ∧ w.heap.size ≤ B ∧ Below w.heap.size w wx)
  case first =>
    go_region_with (go_at_call 21; refine (HG.out _).mono ?_; rintro e w1 ⟨rfl, hb1⟩; obtain ⟨hcc, hff⟩ := bcell hb1; simp at hcc hff; have hz1 := hb1.size; simp at hz1; have HBW := shutN (below_in (w := w) hb1); (first | (have HX := shutN (row_inT (w := w) hb1)) | skip); clear hb1)
    all_goals
      go_wp2
      go_meet
      first
        | exact ⟨w.heap.size, rfl, row_set (row_set (row_set HX.out 0 (.string t)) 1 (.int .i64 p)) 2 (.int .i64 c), Nat.le_refl _, ((HBW.out.setCell (p := ⟨w.heap.size, 0, none⟩) (Nat.le_refl _) _).setCell (p := ⟨w.heap.size, 1, none⟩) (Nat.le_refl _) _).setCell (p := ⟨w.heap.size, 2, none⟩) (Nat.le_refl _) _⟩
        | exact ⟨w1.heap.size, rfl, Sha.row_new w1 [.string t, .int .i64 p, .int .i64 c] _, by omega, balloc HBW.out _⟩
  case rest =>
  obtain ⟨B, rfl, hrow, hB, hbw⟩ := hcut
  have HRC : Hid (Rdr wc R s a b) := HR.out.below hbw hR
  obtain ⟨k0, k1, k2, kf⟩ := HRC.out.cells
  have m0 : wc.cell? ⟨B, 0, none⟩ = some (.string t) := Mem.cell_of_row hrow 0
  have m1 : wc.cell? ⟨B, 1, none⟩ = some (.int .i64 p) := Mem.cell_of_row hrow 1
  have m2 : wc.cell? ⟨B, 2, none⟩ = some (.int .i64 c) := Mem.cell_of_row hrow 2
  have HO : Hid (Only (fun k => k = R) w wc) := Only.of_below _ hbw
  have hne : ¬ R = B := by omega
  clear hrow hbw HG HR c0 c1 c2 cf
  cases b
  · by_cases hc : c = 0
    · have HC : Hid (N0 = t ∧ B0 = false) := ⟨by rw [HN0.out]; simp, by rw [HB0.out]; simp [hc]⟩
      subst hc
      go_wp2
      go_ret
      exact ⟨PutNum.ret_str HC.out.1.symm, ⟨p, by rw [HC.out.2]; exact row_set HRC.out 1 (.int .i64 p)⟩, HO.out.trans (only_setR rfl)⟩
    · have e1 : (c != 0) = true := bne_iff_ne.2 hc
      have HC : Hid (N0 = ByteArray.empty ∧ B0 = true) := ⟨by rw [HN0.out, HNO.out hc]; simp, by rw [HB0.out]; simp [hc]⟩
      go_wp2
      go_ret
      exact ⟨PutNum.ret_str HC.out.1.symm, ⟨a, by rw [HC.out.2]; exact row_set HRC.out 2 (.bool true)⟩, HO.out.trans (only_setR rfl)⟩
  · have HC : Hid (N0 = ByteArray.empty ∧ B0 = true) := ⟨by rw [HN0.out]; simp, by rw [HB0.out]; simp⟩
    go_wp2
    go_ret
    exact ⟨PutNum.ret_str HC.out.1.symm, ⟨a, by rw [HC.out.2]; exact row_set HRC.out 2 (.bool true)⟩, HO.out.trans (only_setR rfl)⟩
end Go.Proofs.YtjgkekgieodhnaaDoor.Frm

/- The reader's text, with the place behind it; and how many. -/
namespace Go.Proofs.YtjgkekgieodhnaaDoor.Tre
open Go.RowKit Go.Proofs.YtjgkekgieodhnaaDoor.Mem Go.Proofs.YtjgkekgieodhnaaDoor.Gf Go.Proofs.YtjgkekgieodhnaaDoor.Harn Go.Proofs.YtjgkekgieodhnaaDoor.Disk Go.Proofs.YtjgkekgieodhnaaDoor.GetText Go.Proofs.YtjgkekgieodhnaaDoor.Frm

set_option maxRecDepth 100000 in
set_option maxHeartbeats 2000000 in
theorem text2_any (R : Nat) (s : ByteArray) (a : Int) (t : ByteArray) (p c : Int) (b : Bool) (w : World) (hr : Rdr w R s a b) (hn : TxtX s a t p c) :
    Calls Tryd.prog 11 #[.pointer (some ⟨R, 0, none⟩)] w fun e w' => e = .returned (.string (if b = false then t else ByteArray.empty)) ∧ Rdr w' R s (if b = false ∧ c = 0 then p else a) (b || decide (c ≠ 0)) ∧ Only (fun k => k = R) w w' := by
  obtain ⟨N0, hN0⟩ : ∃ N0, N0 = (if b = false then t else ByteArray.empty) := ⟨_, rfl⟩
  obtain ⟨A0, hA0⟩ : ∃ A0, A0 = (if b = false ∧ c = 0 then p else a) := ⟨_, rfl⟩
  obtain ⟨B0, hB0⟩ : ∃ B0, B0 = (b || decide (c ≠ 0)) := ⟨_, rfl⟩
  rw [← hN0, ← hA0, ← hB0]
  have HN0 : Hid _ := hN0
  have HA0 : Hid _ := hA0
  have HB0 : Hid _ := hB0
  clear hN0 hA0 hB0
  obtain ⟨c0, c1, c2, cf⟩ := hr.cells
  have hR := hr.lt
  have HR : Hid (Rdr w R s a b) := hr
  have HG : Hid (∀ W, Texts 21 s a t p c W) := hn.sp
  have HNO : Hid (c ≠ 0 → t = ByteArray.empty) := hn.none
  clear hr hn
  go_enter Tryd.func11, Tryd.ntmps11
  go_upto_region 1 with fail
  go_cut [3] (fun bv wx => ∃ B, bv = .pointer (some ⟨B, 0, none⟩) ∧ HasRow wx B [.string t, .int .i64 p, .int .i64 c] 47 ∧ w.heap.size ≤ B ∧ Below w.heap.size w wx)
  case first =>
    go_region_with (go_at_call 21; refine (HG.out _).mono ?_; rintro e w1 ⟨rfl, hb1⟩; obtain ⟨hcc, hff⟩ := bcell hb1; simp at hcc hff; have hz1 := hb1.size; simp at hz1; have HBW := shutN (below_in (w := w) hb1); (first | (have HX := shutN (row_inT (w := w) hb1)) | skip); clear hb1)
    all_goals
      go_wp2
      go_meet
      first
        | exact ⟨w.heap.size, rfl, row_set (row_set (row_set HX.out 0 (.string t)) 1 (.int .i64 p)) 2 (.int .i64 c), Nat.le_refl _, ((HBW.out.setCell (p := ⟨w.heap.size, 0, none⟩) (Nat.le_refl _) _).setCell (p := ⟨w.heap.size, 1, none⟩) (Nat.le_refl _) _).setCell (p := ⟨w.heap.size, 2, none⟩) (Nat.le_refl _) _⟩
        | exact ⟨w1.heap.size, rfl, Sha.row_new w1 [.string t, .int .i64 p, .int .i64 c] _, by omega, balloc HBW.out _⟩
  case rest =>
  obtain ⟨B, rfl, hrow, hB, hbw⟩ := hcut
  have HRC : Hid (Rdr wc R s a b) := HR.out.below hbw hR
  obtain ⟨k0, k1, k2, kf⟩ := HRC.out.cells
  have m0 : wc.cell? ⟨B, 0, none⟩ = some (.string t) := Mem.cell_of_row hrow 0
  have m1 : wc.cell? ⟨B, 1, none⟩ = some (.int .i64 p) := Mem.cell_of_row hrow 1
  have m2 : wc.cell? ⟨B, 2, none⟩ = some (.int .i64 c) := Mem.cell_of_row hrow 2
  have HO : Hid (Only (fun k => k = R) w wc) := Only.of_below _ hbw
  have hne : ¬ R = B := by omega
  clear hrow hbw HG HR c0 c1 c2 cf
  cases b
  · by_cases hc : c = 0
    · have HC : Hid (N0 = t ∧ A0 = p ∧ B0 = false) := ⟨by rw [HN0.out]; simp, by rw [HA0.out]; simp [hc], by rw [HB0.out]; simp [hc]⟩
      subst hc
      go_wp2
      go_ret
      exact ⟨PutNum.ret_str HC.out.1.symm, by rw [HC.out.2.1, HC.out.2.2]; exact row_set HRC.out 1 (.int .i64 p), HO.out.trans (only_setR rfl)⟩
    · have e1 : (c != 0) = true := bne_iff_ne.2 hc
      have HC : Hid (N0 = ByteArray.empty ∧ A0 = a ∧ B0 = true) := ⟨by rw [HN0.out, HNO.out hc]; simp, by rw [HA0.out]; simp [hc], by rw [HB0.out]; simp [hc]⟩
      go_wp2
      go_ret
      exact ⟨PutNum.ret_str HC.out.1.symm, by rw [HC.out.2.1, HC.out.2.2]; exact row_set HRC.out 2 (.bool true), HO.out.trans (only_setR rfl)⟩
  · have HC : Hid (N0 = ByteArray.empty ∧ A0 = a ∧ B0 = true) := ⟨by rw [HN0.out]; simp, by rw [HA0.out]; simp, by rw [HB0.out]; simp⟩
    go_wp2
    go_ret
    exact ⟨PutNum.ret_str HC.out.1.symm, by rw [HC.out.2.1, HC.out.2.2]; exact row_set HRC.out 2 (.bool true), HO.out.trans (only_setR rfl)⟩

/-- so many, at most 'most' -/
theorem many_any (R : Nat) (s : ByteArray) (a n p c : Int) (w : World) (hr : Rdr w R s a false) (hn : NumX s a n p c) :
    Calls Tryd.prog 10 #[.pointer (some ⟨R, 0, none⟩), .int .i64 6] w fun e w' => ((c = 0 ∧ 0 ≤ n ∧ n ≤ 6) ∧ e = .returned (.int .i64 n) ∧ Rdr w' R s p false ∨ ¬ (c = 0 ∧ 0 ≤ n ∧ n ≤ 6) ∧ e = .returned (.int .i64 0) ∧ ∃ a', Rdr w' R s a' true) ∧ Only (fun k => k = R) w w' := by
  have K1 := shutN (num_any R s a n p c false w hr hn.num)
  clear hr hn
  by_cases hc : c = 0
  · subst hc
    have K1' : Hid (Calls Tryd.prog 12 #[.pointer (some ⟨R, 0, none⟩)] w fun e w' => e = .returned (.int .i64 n) ∧ Rdr w' R s p false ∧ Only (fun k => k = R) w w') := by
      unfold Hid; have := K1.out; simpa using this
    clear K1
    by_cases hb : 0 ≤ n ∧ n ≤ 6
    · have KI : Hid (∀ W, Calls Tryd.prog 20 #[.int .i64 n, .int .i64 0, .int .i64 6] W fun e w' => e = .returned (.bool true) ∧ W = w') := fun W => by
        have := l05Is_any n 0 6 W
        rwa [show isB n 0 6 = true by simp [isB]; exact hb] at this
      go_enter Tryd.func10, Tryd.ntmps10
      go_wp2_with fail
      refine K1'.out.mono ?_
      rintro e w1 ⟨rfl, hr1, ho1⟩
      have HR1 := shutN hr1
      have HO1 := shutN ho1
      clear hr1 ho1
      go_wp2_with (go_at_call 20; refine (KI.out _).mono ?_; rintro e w2 ⟨rfl, rfl⟩)
      go_ret
      exact ⟨.inl ⟨⟨by first | rfl | trivial, hb⟩, rfl, HR1.out⟩, HO1.out⟩
    · have KI : Hid (∀ W, Calls Tryd.prog 20 #[.int .i64 n, .int .i64 0, .int .i64 6] W fun e w' => e = .returned (.bool false) ∧ W = w') := fun W => by
        have := l05Is_any n 0 6 W
        rwa [show isB n 0 6 = false by simp [isB]; omega] at this
      go_enter Tryd.func10, Tryd.ntmps10
      go_wp2_with fail
      refine K1'.out.mono ?_
      rintro e w1 ⟨rfl, hr1, ho1⟩
      have HR1 := shutN hr1
      have HO1 := shutN ho1
      obtain ⟨k0, k1, k2, kf⟩ := hr1.cells
      clear hr1 ho1
      go_wp2_with (go_at_call 20; refine (KI.out _).mono ?_; rintro e w2 ⟨rfl, rfl⟩)
      go_ret
      exact ⟨.inr ⟨fun h => hb h.2, rfl, p, row_set HR1.out 2 (.bool true)⟩, HO1.out.trans (only_setR rfl)⟩
  · have K1' : Hid (Calls Tryd.prog 12 #[.pointer (some ⟨R, 0, none⟩)] w fun e w' => e = .returned (.int .i64 0) ∧ Rdr w' R s a true ∧ Only (fun k => k = R) w w') := by
      unfold Hid; have := K1.out; simpa [hc] using this
    clear K1
    have KI : Hid (∀ W, Calls Tryd.prog 20 #[.int .i64 0, .int .i64 0, .int .i64 6] W fun e w' => e = .returned (.bool true) ∧ W = w') := fun W => by
      have := l05Is_any 0 0 6 W
      rwa [show isB 0 0 6 = true by simp [isB]] at this
    go_enter Tryd.func10, Tryd.ntmps10
    go_wp2_with fail
    refine K1'.out.mono ?_
    rintro e w1 ⟨rfl, hr1, ho1⟩
    have HR1 := shutN hr1
    have HO1 := shutN ho1
    clear hr1 ho1
    go_wp2_with (go_at_call 20; refine (KI.out _).mono ?_; rintro e w2 ⟨rfl, rfl⟩)
    go_ret
    exact ⟨.inr ⟨fun h => hc h.1, rfl, a, HR1.out⟩, HO1.out⟩
end Go.Proofs.YtjgkekgieodhnaaDoor.Tre
