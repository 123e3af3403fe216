/- What the program's groups of a body are. -/
import Derived.Test.YtkanhjafchiikabTextsE
import Derived.Test.YtkanhjafchiikabImplSpread
import Derived.Test.YtkanhjafchiikabTextsA
namespace Go.Proofs.Ytkanhjafchiikab.Frm
open Go.RowKit Go.Proofs.Ytkanhjafchiikab.Mem Go.Proofs.Ytkanhjafchiikab.Gf Go.Proofs.Ytkanhjafchiikab.Harn

theorem hidV {p : Prop} (h : p) : Hid p := h
/-- how many elements a slice has -/
def slLen : Value → Nat | .slice _ n _ => n | _ => 0
/-- the groups as values -/
def groupV (B size j : Nat) : List Value := (List.range j).map fun i => .slice (some ⟨B, 100 * i, none⟩) (groupZ size i) (groupZ size i)
theorem groupV_succ (B size j : Nat) : groupV B size (j + 1) = groupV B size j ++ [.slice (some ⟨B, 100 * j, none⟩) (groupZ size j) (groupZ size j)] := by simp [groupV, List.range_succ]
theorem groupV_len (B size j : Nat) : (groupV B size j).length = j := by simp [groupV]
/-- 'b[:n:n]' -/
theorem slice_three (b o k n c : Nat) (hk : k ≤ c) (i : Int) (hi : i = k) (W : World) :
    (Instr.slice 31 (.slice (some ⟨b, o, none⟩) n c) none (some (.int .i64 i)) (some (.int .i64 i))).run Try.prog W = .ok (.slice (some ⟨b, o, none⟩) k k) W := by
  subst hi
  simp [Instr.slice, Instr.sliceBounds, run_underlying Join.under, go_sem, hk]
/-- 'b[n:]' -/
theorem slice_rest (b o k n c : Nat) (hk : k ≤ n) (hc : n ≤ c) (i : Int) (hi : i = k) :
    ∃ ad, (n - k ≠ 0 → ad = some ⟨b, o + k, none⟩) ∧ ∀ W, (Instr.slice 31 (.slice (some ⟨b, o, none⟩) n c) (some (.int .i64 i)) none none).run Try.prog W = .ok (.slice ad (n - k) (c - k)) W := by
  subst hi
  obtain ⟨i, hi0, hz0, hz1, hz2⟩ := info_parts Join.info8
  by_cases h : c = k
  · refine ⟨some ⟨b, o, none⟩, fun h1 => by omega, fun W => ?_⟩
    have h2 : n = k := by omega
    subst h2
    subst h
    simp [Instr.slice, Instr.sliceBounds, run_underlying Join.under, go_sem, sizeOf, typeInfo, hi0, hz1]
  · refine ⟨some ⟨b, o + k, none⟩, fun _ => rfl, fun W => ?_⟩
    simp [Instr.slice, Instr.sliceBounds, run_underlying Join.under, go_sem, sizeOf, typeInfo, hi0, hz1, hk, h]

set_option maxRecDepth 100000 in
set_option maxHeartbeats 1000000 in
theorem groupsOf_any (body : ByteArray) (w : World) (hb : body.size ≤ 900) :
    Calls Try.prog 13 #[.string body] w fun e w' => ∃ u B, e = .returned u ∧ OwnV 31 w' w.heap.size u (groupV B body.size (groupsN body.size)) ∧ (∀ i (h : i < body.size), w'.cell? ⟨B, i, none⟩ = some (.int .u8 ((body[i]).toNat : Nat))) ∧ Below w.heap.size w w' := by
  obtain ⟨v, W1, hcv, hm1, hb1, hz1⟩ := convert_M (P := Try.prog) 9 31 5 Join.underS Join.under Join.under8 w body (by omega)
  have HB1 : Hid (Below w.heap.size w W1) := hb1
  have HM : Hid (OwnsM W1 w.heap.size 5 v body.data.toList) := hm1
  obtain ⟨B, cap, cur, fz, rfl, hB, _, _, hcap, _, _, _⟩ := hm1
  have hln : body.data.toList.length = body.size := rfl
  rw [hln] at hcap hcv
  have HCE : Hid (∀ i (h : i < body.size), W1.cell? ⟨B, i, none⟩ = some (.int .u8 ((body[i]).toNat : Nat))) := fun i h => HM.out.cells rfl i h
  have hBlt := (HM.out.lt B rfl).2
  have hzz : w.heap.size ≤ W1.heap.size := hb1.size
  obtain ⟨z, hz⟩ : ∃ z, z = body.size := ⟨_, rfl⟩
  have HZ : Hid (z = body.size) := hz
  rw [← hz] at hcv hcap hb
  clear hb1 hz1 hln hz
  go_enter Try.func13, Try.ntmps13
  go_wp2
  go_loopw [3, 4] (fun gv lv wr => ∃ j ad c', j ≤ groupsN z ∧ z - 100 * j ≤ c' ∧ lv = .slice ad (z - 100 * j) c' ∧ (j < groupsN z → ad = some ⟨B, 100 * j, none⟩) ∧ OwnV 31 wr W1.heap.size gv (groupV B z j) ∧ Below W1.heap.size W1 wr) (fun _ lv _ => slLen lv)
  case atStart => exact ⟨0, some ⟨B, 0, none⟩, cap, by omega, by omega, rfl, fun _ => rfl, World.ownsRow_nil _ _ _ _, Below.refl _ _⟩
  case round =>
    obtain ⟨j, ad, c', hj, hc', rfl, had, hown, hbel⟩ := hrel
    have HOWN : Hid (OwnV 31 wr W1.heap.size u3 (groupV B z j)) := hown
    have HBEL : Hid (Below W1.heap.size W1 wr) := hbel
    have hz := hbel.size
    clear hown
    by_cases hlt : j < groupsN z
    · have hgt := groups_lt.1 hlt
      obtain rfl := had hlt
      have hmin : groupZ z j = min (z - 100 * j) 100 := rfl
      have hgb := groupZ_bd hlt
      have HGV : Hid _ := groupV_succ B z j
      have HGL : Hid ((groupV B z j).length = j) := groupV_len B z j
      have HJ9 : Hid (groupsN z ≤ 9) := groups_le hb
      generalize groupZ z j = q at *
      have hmn : ∀ W, (Builtin.min_ #[3, 3] 3 #[.int .i64 ((z - 100 * j : Nat) : Int), .int .i64 100]).run Try.prog W = .ok (.int .i64 (q : Nat)) W := fun W => by
        rcases Nat.lt_or_ge (z - 100 * j) 100 with h | h
        · have e : q = z - 100 * j := by omega
          have h2 : ¬ ((z - 100 * j : Nat) : Int) > 100 := by omega
          simp [Builtin.min_, Builtin.min2, e]
          omega
        · have e : q = 100 := by omega
          simp [Builtin.min_, Builtin.min2, e]
          omega
      have HQ : Hid (q = min (z - 100 * j) 100) := hmin
      have hq1 : q ≤ z - 100 * j := by omega
      have hq2 : q ≤ 100 := by omega
      have hs3 := slice_three B (100 * j) q (z - 100 * j) c' (by omega) (q : Int) rfl
      obtain ⟨ad2, HAD2, hsr⟩ := slice_rest B (100 * j) q (z - 100 * j) c' (by omega) hc' (q : Int) rfl
      have HAD : Hid ((z - 100 * j) - q ≠ 0 → ad2 = some ⟨B, 100 * j + q, none⟩) := HAD2
      generalize groupV B z j = cs at *
      have p0 : (0 : Int) < ((z - 100 * j : Nat) : Int) := by omega
      clear HAD2 hbel had hmin
      go_wp2_with (at_builtin; refine wp_val (by rfl) _ _ _ 31 (.slice none 0 0) 24 (by rfl) underU8ss infoU8s rfl (by omega) W1.heap.size wr.heap.size u3 cs (.slice (some ⟨B, 100 * j, none⟩) q q) (by rfl) (by rfl) (HOWN.out.alloc _) (size_new hz _) (cell_new _ _ _) rfl (by have := HGL.out; have := HJ9.out; omega) ?_; intro g3 c3 w3 h3 hb3 hz3; have HO3 := hidV h3; have HB3 := hidV ((HBEL.out.alloc hz _).trans hb3); clear h3 hb3 hz3)
      refine ⟨⟨j + 1, ad2, c' - q, by omega, by omega, ?_, fun h => ?_, by rw [HGV.out]; exact HO3.out, HB3.out⟩, ?_⟩
      · have e : z - 100 * j - q = z - 100 * (j + 1) := by have := HQ.out; omega
        rw [e]
      · have h2 := groups_lt.1 h
        have h3 := HQ.out
        have e : 100 * j + q = 100 * (j + 1) := by omega
        rw [← e]
        exact HAD.out (by omega)
      · show z - 100 * j - q < z - 100 * j
        have := HQ.out
        omega
    · have hjn : j = groupsN z := by omega
      have hz0 : z - 100 * j = 0 := by
        have := groups_lt (size := z) (i := j)
        omega
      have HOUT : Hid (OwnV 31 wr w.heap.size u3 (groupV B body.size (groupsN body.size))) := by
        have e := HZ.out
        rw [← e, ← hjn]
        exact OwnV.below HOWN.out (Below.refl _ _) hzz
      have HCO : Hid (∀ i (h : i < body.size), wr.cell? ⟨B, i, none⟩ = some (.int .u8 ((body[i]).toNat : Nat))) := fun i h => Sha.bel_cell hbel (HCE.out i h)
      have HEND : Hid (Below w.heap.size w wr) := bstep HB1.out hbel
      rw [hz0]
      clear hz0 hbel had
      go_wp2
      go_ret
      exact ⟨_, B, rfl, HOUT.out, HCO.out, HEND.out⟩
end Go.Proofs.Ytkanhjafchiikab.Frm
