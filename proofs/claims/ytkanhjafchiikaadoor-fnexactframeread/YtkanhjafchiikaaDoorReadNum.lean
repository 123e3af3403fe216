/- What the program's readNum answers, by contracts. -/
import Derived.Test.YtkanhjafchiikaaDoorRows
import Derived.Test.YtkanhjafchiikaaDoorTextsA
import Derived.Below
import Derived.WalkLawsBesides
import Derived.RegionTactic
namespace Go.Proofs.YtkanhjafchiikaaDoor.GetNum
open Go.RowKit Go.Proofs.YtkanhjafchiikaaDoor.Scope

def fr0 (g : Nat) (u : Nat → Value) : Act := { tmps := #[u 0, u 1, u 2, u 3, .int .u64 0, .int .i64 0, .nilIface, u 7, u 8, u 9, .pointer (some ⟨g, 0, none⟩), u 11, u 12, u 13, u 14, u 15, u 16, u 17, u 18, u 19, u 20, u 21, u 22, u 23, u 24, u 25, u 26, u 27, u 28, u 29, u 30, u 31, u 32, u 33, u 34, u 35, u 36, u 37, u 38, u 39, u 40, u 41, u 42, u 43, u 44, u 45, u 46, u 47, u 48, u 49, u 50, u 51, u 52, u 53, u 54, u 55, u 56, u 57, u 58], defers := [] }
def fr1 (s : ByteArray) (g : Nat) (p q r : Int) (u : Nat → Value) : Act := { tmps := #[.string s, .int .i64 p, u 2, u 3, .int .u64 0, .int .i64 0, .nilIface, .int .u64 q, .int .i64 r, u 9, .pointer (some ⟨g, 0, none⟩), u 11, u 12, u 13, u 14, u 15, u 16, u 17, u 18, u 19, u 20, u 21, u 22, u 23, u 24, u 25, u 26, u 27, u 28, u 29, u 30, u 31, u 32, u 33, u 34, u 35, u 36, u 37, u 38, u 39, u 40, u 41, u 42, u 43, u 44, u 45, u 46, u 47, u 48, u 49, u 50, u 51, u 52, u 53, u 54, u 55, u 56, u 57, u 58], defers := [] }
def fr2 (s : ByteArray) (g : Nat) (p q r c : Int) (u : Nat → Value) : Act := { tmps := #[.string s, .int .i64 p, u 2, u 3, .int .u64 0, .int .i64 0, .nilIface, .int .u64 q, .int .i64 r, .int .u8 c, .pointer (some ⟨g, 0, none⟩), u 11, u 12, u 13, u 14, u 15, u 16, u 17, u 18, u 19, u 20, u 21, u 22, u 23, u 24, u 25, u 26, u 27, u 28, u 29, u 30, u 31, u 32, u 33, u 34, u 35, u 36, u 37, u 38, u 39, u 40, u 41, u 42, u 43, u 44, u 45, u 46, u 47, u 48, u 49, u 50, u 51, u 52, u 53, u 54, u 55, u 56, u 57, u 58], defers := [] }

theorem fr0_of {g : Nat} {act : Act} (h : act = fr0 g (fun i => act.tmps.getD i undef)) : ∃ u, act = fr0 g u := ⟨_, h⟩
theorem fr1_of {s : ByteArray} {g : Nat} {p q r : Int} {act : Act} (h : act = fr1 s g p q r (fun i => act.tmps.getD i undef)) : ∃ u, act = fr1 s g p q r u := ⟨_, h⟩
theorem fr2_of {s : ByteArray} {g : Nat} {p q r c : Int} {act : Act} (h : act = fr2 s g p q r c (fun i => act.tmps.getD i undef)) : ∃ u, act = fr2 s g p q r c u := ⟨_, h⟩

/-- The place k behind a: its byte. -/
def byteAt (s : ByteArray) (a k : Nat) : Nat := (s[a + k]?.getD 0).toNat

/-- At 'wrong': the fault's code stands in memory. -/
def J0 (w0 : World) (R : Nat × Nat × Nat) (act : Act) (w : World) : Prop :=
  Below w0.heap.size w0 w ∧ w.cell? ⟨w0.heap.size, 0, none⟩ = some (.int .i64 (R.1 : Nat)) ∧ R.1 ≠ 0 ∧ ∃ u, act = fr0 w0.heap.size u
/-- At 'more': k bytes have been read. -/
def J1 (w0 : World) (s : ByteArray) (a : Nat) (act : Act) (w : World) : Prop :=
  Below w0.heap.size w0 w ∧ w.cell? ⟨w0.heap.size, 0, none⟩ = some (.int .i64 0) ∧ w.frozen? ⟨w0.heap.size, 0, none⟩ = false ∧
    ∃ (k x : Nat) (p q r : Int), Inv s a k x ∧ p = ((a + k : Nat) : Int) ∧ q = (x : Int) ∧ r = (k : Int) ∧ ∃ u, act = fr1 s w0.heap.size p q r u
/-- At 'last': the last byte has been read. -/
def J2 (w0 : World) (s : ByteArray) (a : Nat) (act : Act) (w : World) : Prop :=
  Below w0.heap.size w0 w ∧ w.cell? ⟨w0.heap.size, 0, none⟩ = some (.int .i64 0) ∧ w.frozen? ⟨w0.heap.size, 0, none⟩ = false ∧
    ∃ (k x : Nat) (p q r c : Int), Inv s a k x ∧ a + k < s.size ∧ (byteAt s a k < 128 ∨ k = 9) ∧ (¬ (k = 9 ∧ 1 < byteAt s a k) → q = ((x + byteAt s a k % 128 * 2 ^ (7 * k) : Nat) : Int)) ∧
      p = ((a + k + 1 : Nat) : Int) ∧ r = ((k + 1 : Nat) : Int) ∧ c = (byteAt s a k : Int) ∧ ∃ u, act = fr2 s w0.heap.size p q r c u
def mu1 (act : Act) (_ : World) : Nat := 13 - (intOf (act.tmps.getD 8 undef)).toNat

def readV (R : Nat × Nat × Nat) : Value := if R.1 = 0 then .tuple #[.int .u64 (R.2.1 : Nat), .int .i64 (R.2.2 : Nat), .nilIface] else .tuple #[.int .u64 0, .int .i64 0, .iface 77 (.agg #[.int .i64 (R.1 : Nat)])]

theorem readV_code {R : Nat × Nat × Nat} (h : R.1 ≠ 0) : readV R = .tuple #[.int .u64 0, .int .i64 0, .iface 77 (.agg #[.int .i64 (R.1 : Nat)])] := by
  unfold readV; rw [if_neg h]
theorem readV_ok {R : Nat × Nat × Nat} {y p : Nat} (h : R = (0, y, p)) : readV R = .tuple #[.int .u64 (y : Nat), .int .i64 (p : Nat), .nilIface] := by
  subst h; unfold readV; rw [if_pos rfl]

theorem jumpN_ret {J : Nat → Act → World → Prop} {Q : Exit → Act → World → Prop} {a : Act} {w : World} : jumpN J Q .ret a w = Q .ret a w := rfl
theorem ret_eq {v v' : Value} (h : v = v') : Ending.returned v = .returned v' := by rw [h]

set_option maxRecDepth 100000 in
set_option maxHeartbeats 2000000 in
theorem readNum_neg (s : ByteArray) (a : Int) (w : World) (ha : a < 0) :
    Calls Tryd.prog 39 #[.string s, .int .i64 a] w fun e w' => e = .returned (readV (1, 0, 0)) ∧ Below w.heap.size w w' := by
  go_enter Tryd.func39, Tryd.ntmps39
  go_wp2
  refine wp_scope_three (J0 w (1, 0, 0)) (fun _ _ => False) (fun _ _ => False) (fun _ _ => 0) (fun _ _ => 0) (fun _ _ => 0) rfl rfl rfl ?_ ?_ (fun _ _ h => h.elim) (fun _ _ h => h.elim)
  · go_wp2
    go_step3
    exact ⟨(Below.refl _ _).alloc (Nat.le_refl _) _, by simp, by decide, fr0_of rfl⟩
  · rintro a' w' ⟨hb, hcell, hne, u, rfl⟩
    unfold fr0
    go_wp2
    go_region
    go_wp2
    rw [jumpN_ret]
    go_ret3
    exact ⟨rfl, hb.drew⟩

theorem and127 (c : Nat) (h : c < 256) : bits .and .u8 (c : Int) 127 = (c : Int) % 128 := by
  have h1 := u8_and_nat c 127 h (by decide)
  have h2 : c &&& 127 = c % 128 := Nat.and_two_pow_sub_one_eq_mod c 7
  rw [h2] at h1
  simpa using h1

theorem or_sum {k u z c : Nat} (hu : u < 2 ^ (7 * k)) (hz : z = c % 128 * 2 ^ (7 * k)) (h1 : z < 18446744073709551616) (h2 : u + z < 18446744073709551616) : bits .or .u64 (u : Int) (z : Int) = ((u + z : Nat) : Int) := by
  have := u64_or_nat u z (by omega) h1
  rw [this]
  subst hz
  rw [or_eq_add hu]

theorem mu1_fr1 {s : ByteArray} {g : Nat} {p q : Int} {k : Nat} {u : Nat → Value} {w : World} : mu1 (fr1 s g p q (k : Int) u) w = 13 - k := by
  show 13 - ((k : Int)).toNat = 13 - k
  simp

set_option maxRecDepth 100000 in
set_option maxHeartbeats 4000000 in
theorem readNum_in (s : ByteArray) (a : Nat) (w : World) (hs : (s.size : Int) ≤ 8000) (ha : (a : Int) ≤ 9223372036854775807) :
    Calls Tryd.prog 39 #[.string s, .int .i64 a] w fun e w' => e = .returned (readV (rd s a)) ∧ Below w.heap.size w w' := by
  go_enter Tryd.func39, Tryd.ntmps39
  go_wp2
  refine wp_scope_three (J0 w (rd s a)) (J1 w s a) (J2 w s a) (fun _ _ => 0) mu1 (fun _ _ => 1) rfl rfl rfl ?_ ?_ ?_ ?_
  · have HI : Hid (Inv s a 0 0) := inv_start s a
    by_cases hlt : a < s.size
    · have hb := byte_lt s[a]
      have HC : Hid (byteAt s a 0 = s[a].toNat) := by show _ = _; unfold byteAt; rw [Nat.add_zero, at_lt s a hlt]
      have hlt1 : (a : Int) < (s.size : Int) := by omega
      have ham := and127 s[a].toNat hb
      have hw1 : IntKind.u64.wrap ((s[a].toNat : Int) % 128) = (s[a].toNat : Int) % 128 := IntWalk.u64_in _ ⟨by omega, by omega⟩
      have hor : bits .or .u64 0 ((s[a].toNat : Int) % 128) = (s[a].toNat : Int) % 128 := by
        have := u64_or_nat 0 (s[a].toNat % 128) (by omega) (by omega)
        simpa using this
      by_cases hc : (s[a].toNat : Int) < 128
      · go_wp2
        go_step3
        go_wp2
        go_step3
        refine ⟨(Below.refl _ _).alloc (Nat.le_refl _) _, by simp, by simp, 0, 0, _, _, _, _, HI.out, hlt, Or.inl (by rw [HC.out]; omega), ?_, ?_, ?_, ?_, fr2_of rfl⟩
        · intro _; rw [HC.out]; simp
        · omega
        · rfl
        · rw [HC.out]
      · have hn := (inv_step HI.out (by omega) (by omega) (by unfold byteAt at HC; rw [HC.out]; omega)).2
        have HN : Hid (Inv s a 1 (s[a].toNat - 128)) := by
          show Inv _ _ _ _
          have e := HC.out
          unfold byteAt at e
          rw [e] at hn
          simpa using hn
        clear hn
        go_wp2
        go_step3
        go_wp2
        go_step3
        refine ⟨(Below.refl _ _).alloc (Nat.le_refl _) _, by simp, by simp, 1, _, _, _, _, HN.out, ?_, ?_, ?_, fr1_of rfl⟩
        · omega
        · omega
        · rfl
    · have hge : (s.size : Int) ≤ (a : Int) := by omega
      have HR : Hid (rd s a = (4, 0, 0)) := inv_short HI.out (by omega)
      go_wp2
      go_step3
      go_wp2
      go_step3
      refine ⟨(Below.refl _ _).alloc (Nat.le_refl _) _, ?_, ?_, fr0_of rfl⟩
      · rw [HR.out]; simp
      · rw [HR.out]; decide
  · rintro a' w' ⟨hb, hcell, hne, u, rfl⟩
    have HR : Hid (readV (rd s a) = .tuple #[.int .u64 0, .int .i64 0, .iface 77 (.agg #[.int .i64 ((rd s a).1 : Nat)])]) := readV_code hne
    generalize (rd s a).1 = cd at *
    unfold fr0
    go_wp2
    go_region
    go_wp2
    rw [jumpN_ret]
    go_ret3
    exact ⟨ret_eq HR.out.symm, hb.drew⟩
  · rintro a' w' ⟨hbel, hcell, hfz, k, x, p, q, r, HV0, rfl, rfl, rfl, u, rfl⟩
    have HV : Hid (Inv s a k x) := HV0
    clear HV0
    have hk := HV.out.1
    rw [mu1_fr1]
    by_cases hlt : a + k < s.size
    · have ec := at_lt s (a + k) hlt
      have hb := byte_lt s[a + k]
      have HC : Hid (byteAt s a k = s[a + k].toNat) := by show _ = _; unfold byteAt; rw [ec]
      clear ec
      have hlt1 : ((a + k : Nat) : Int) < (s.size : Int) := by omega
      have ham := and127 s[a + k].toNat hb
      by_cases hwd : k = 9 ∧ 1 < s[a + k].toNat
      · have h10 : ((k : Int) + 1 == 10) = true := beq_iff_eq.2 (by omega)
        have HW : Hid (k = 9 ∧ 1 < s[a + k].toNat) := hwd
        clear hwd
        by_cases hc : (s[a + k].toNat : Int) < 128
        all_goals
          unfold fr1
          go_wp2
          go_step3
          refine ⟨⟨hbel, hcell, hfz, k, x, _, _, _, _, HV.out, hlt, Or.inr HW.out.1, ?_, ?_, ?_, ?_, fr2_of rfl⟩, by omega⟩
          · intro h; exact absurd (by rw [HC.out]; exact HW.out) h
          · omega
          · omega
          · rw [HC.out]
      · obtain ⟨hw1, _⟩ := wrap_shift (k := k) (u := x) (c := s[a + k].toNat) hk HV.out.2.1 (fun h => by omega)
        obtain ⟨hz1, hz2⟩ := sum_fits (k := k) (u := x) (x := s[a + k].toNat % 128) hk HV.out.2.1 (Nat.mod_lt _ (by omega)) (fun h => by omega)
        have HY : Hid (∃ z y, z = s[a + k].toNat % 128 * 2 ^ (7 * k) ∧ y = x + z) := ⟨_, _, rfl, rfl⟩
        obtain ⟨z, y, hz, hy⟩ := HY.out
        have hor := or_sum HV.out.2.1 hz (by rw [hz]; exact hz1) (by rw [hz]; exact hz2)
        rw [← hz] at hw1 hz1 hz2
        rw [← hy] at hor hz2
        have HZ : Hid (z = s[a + k].toNat % 128 * 2 ^ (7 * k)) := hz
        have HY2 : Hid (y = x + z) := hy
        clear HY hz hy
        have hz1' : (z : Int) ≤ 18446744073709551615 := by omega
        have hz2' : (y : Int) ≤ 18446744073709551615 := by omega
        clear hz1 hz2
        by_cases hc : (s[a + k].toNat : Int) < 128
        · unfold fr1
          go_wp2
          go_step3
          refine ⟨⟨hbel, hcell, hfz, k, x, _, _, _, _, HV.out, hlt, Or.inl (by rw [HC.out]; omega), ?_, ?_, ?_, ?_, fr2_of rfl⟩, by omega⟩
          · intro _; rw [HC.out, ← HZ.out, ← HY2.out]
          · omega
          · omega
          · rw [HC.out]
        · obtain ⟨hk8, hn⟩ := inv_step HV.out hlt (by have e := HC.out; unfold byteAt at e; rw [e]; exact hwd) (by have e := HC.out; unfold byteAt at e; rw [e]; omega)
          have hm : s[a + k].toNat % 128 = s[a + k].toNat - 128 := by omega
          have e := HC.out
          unfold byteAt at e
          rw [e, ← hm, ← HZ.out, ← HY2.out] at hn
          have HN : Hid (Inv s a (k + 1) y) := hn
          clear hn hm hwd e
          have h10 : ((k : Int) + 1 == 10) = false := beq_eq_false_iff_ne.2 (by omega)
          unfold fr1
          go_wp2
          go_step3
          refine ⟨⟨hbel, hcell, hfz, k + 1, y, _, _, _, HN.out, ?_, ?_, ?_, fr1_of rfl⟩, ?_⟩
          · omega
          · rfl
          · omega
          · show 13 - ((k : Int) + 1).toNat < _
            omega
    · have hge : (s.size : Int) ≤ ((a + k : Nat) : Int) := by omega
      have HR : Hid (rd s a = (4, 0, 0)) := inv_short HV.out (by omega)
      unfold fr1
      go_wp2
      go_step3
      refine ⟨⟨hbel.setCell (Nat.le_refl _) _, ?_, ?_, fr0_of rfl⟩, by omega⟩
      · rw [HR.out]; exact World.cell?_setCell_same _ _ _ hcell
      · rw [HR.out]; decide
  · rintro a' w' ⟨hbel, hcell, hfz, k, x, p, q, r, c, HV0, hlt, hend, hq, rfl, rfl, rfl, u, rfl⟩
    have HV : Hid (Inv s a k x) := HV0
    clear HV0
    have hk := HV.out.1
    have hb : byteAt s a k < 256 := byte_lt _
    have HC : Hid (byteAt s a k = (s[a + k]?.getD 0).toNat) := rfl
    by_cases hwd : k = 9 ∧ 1 < byteAt s a k
    · have HR : Hid (rd s a = (3, 0, 0)) := inv_wide HV.out hlt hwd.1 hwd.2
      have h10 : ((k : Int) + 1 == 10) = true := beq_iff_eq.2 (by omega)
      have hc1 : (1 : Int) < (byteAt s a k : Int) := by omega
      generalize byteAt s a k = c at *
      clear hwd hq hend
      unfold fr2
      go_wp2
      go_step3
      refine ⟨⟨hbel.setCell (Nat.le_refl _) _, ?_, ?_, fr0_of rfl⟩, by omega⟩
      · rw [HR.out]; exact World.cell?_setCell_same _ _ _ hcell
      · rw [HR.out]; decide
    · obtain rfl := hq hwd
      by_cases hlong : byteAt s a k = 0 ∧ 0 < k
      · have HR : Hid (rd s a = (3, 0, 0)) := inv_long HV.out hlt hlong.2 hlong.1
        have hc0 : ((byteAt s a k : Int) == 0) = true := beq_iff_eq.2 (by omega)
        have hk1 : (1 : Int) < (k : Int) + 1 := by omega
        have hc1 : ¬ (1 : Int) < (byteAt s a k : Int) := by omega
        generalize x + byteAt s a k % 128 * 2 ^ (7 * k) = y at *
        generalize byteAt s a k = c at *
        clear hwd hq hend hlong
        by_cases h9 : k = 9
        · have h10 : ((k : Int) + 1 == 10) = true := beq_iff_eq.2 (by omega)
          unfold fr2
          go_wp2
          go_step3
          refine ⟨⟨hbel.setCell (Nat.le_refl _) _, ?_, ?_, fr0_of rfl⟩, by omega⟩
          · rw [HR.out]; exact World.cell?_setCell_same _ _ _ hcell
          · rw [HR.out]; decide
        · have h10 : ((k : Int) + 1 == 10) = false := beq_eq_false_iff_ne.2 (by omega)
          unfold fr2
          go_wp2
          go_step3
          refine ⟨⟨hbel.setCell (Nat.le_refl _) _, ?_, ?_, fr0_of rfl⟩, by omega⟩
          · rw [HR.out]; exact World.cell?_setCell_same _ _ _ hcell
          · rw [HR.out]; decide
      · have hc128 : byteAt s a k < 128 := by omega
        have hr := inv_done HV.out hlt hwd hc128 hlong
        have hm : byteAt s a k % 128 = byteAt s a k := Nat.mod_eq_of_lt hc128
        have HR : Hid (readV (rd s a) = .tuple #[.int .u64 ((x + byteAt s a k % 128 * 2 ^ (7 * k) : Nat) : Int), .int .i64 ((a + k + 1 : Nat) : Int), .nilIface]) := by
          rw [hm]; exact readV_ok hr
        clear hr hm
        have ht : ((byteAt s a k : Int) == 0) = false ∨ (((byteAt s a k : Int) == 0) = true ∧ ¬ (1 : Int) < (k : Int) + 1) := by
          by_cases e : byteAt s a k = 0
          · exact .inr ⟨beq_iff_eq.2 (by omega), by omega⟩
          · exact .inl (beq_eq_false_iff_ne.2 (by omega))
        have hg : ((k : Int) + 1 == 10) = false ∨ (((k : Int) + 1 == 10) = true ∧ ¬ (1 : Int) < (byteAt s a k : Int)) := by
          by_cases e : k = 9
          · exact .inr ⟨beq_iff_eq.2 (by omega), by omega⟩
          · exact .inl (beq_eq_false_iff_ne.2 (by omega))
        generalize x + byteAt s a k % 128 * 2 ^ (7 * k) = y at *
        generalize byteAt s a k = c at *
        clear hwd hq hend hlong
        by_cases hk1 : (1 : Int) < (k : Int) + 1
        all_goals
          rcases ht with ht | ⟨ht, ht2⟩ <;> rcases hg with hg | ⟨hg, hg2⟩
          all_goals
            first
            | omega
            | (unfold fr2
               go_wp2
               rw [jumpN_ret]
               go_ret3
               exact ⟨ret_eq HR.out.symm, hbel⟩)
end Go.Proofs.YtkanhjafchiikaaDoor.GetNum
