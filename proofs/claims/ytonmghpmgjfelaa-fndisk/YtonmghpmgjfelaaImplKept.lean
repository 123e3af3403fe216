/- What the program's kept answers. -/
import Derived.Test.YtonmghpmgjfelaaSpecWrite
namespace Go.Proofs.Ytonmghpmgjfelaa.Disk
open Go.RowKit Go.Proofs.Ytonmghpmgjfelaa.Mem Go.Proofs.Ytonmghpmgjfelaa.Harn Go.Proofs.Ytonmghpmgjfelaa.DiskP

theorem wp_own {w : World} {ops : Array Oper} {rest : List Oper} {o : Oper} {a : Act} {Q : Exit → Act → World → Prop} (hgd : o.guard = none) (s x : Operand)
    (ho : o.op = .call { callee := .builtin .append, args := #[s, x], argTypes := #[24, 24] }) (base b : Nat) (v : Value) (lp : List (Int × ByteArray)) (y : Int) (t : ByteArray) (hs : a.eval s = v) (hx : a.eval x = .slice (some ⟨b, 0, none⟩) 1 1)
    (h : OwnP w base v lp) (hbase : base ≤ w.heap.size) (h0 : w.cell? ⟨b, 0, none⟩ = some (.int .i64 y)) (h1 : w.cell? ⟨b, 1, none⟩ = some (.string t)) (hn : lp.length ≤ 1100000)
    (hK : ∀ g cap w', OwnP w' base (.slice (some ⟨g, 0, none⟩) (lp.length + 1) cap) (lp ++ [(y, t)]) → Below base w w' → w.heap.size ≤ w'.heap.size → wpList Try.prog ops Q rest (a.put o.dst (.slice (some ⟨g, 0, none⟩) (lp.length + 1) cap)) w') : wpList Try.prog ops Q (o :: rest) a w := by
  obtain ⟨g', cap, w', hr, a1, a2, a3, a4⟩ := app_own o.type base b v lp y t w h hbase h0 h1 hn
  refine wp_app hgd s x _ ho _ _ _ w' hs hx hr (hK g' cap w' ?_ ?_ a4.size)
  · unfold OwnP
    rw [List.length_append]
    exact a1
  · exact (Below.refl base w).grown a4 hbase (fun j hj => (World.ownsRow.lt h j hj).1)

set_option maxRecDepth 100000 in
set_option maxHeartbeats 1000000 in
theorem kept_any (vp vk : Value) (lp : List (Int × ByteArray)) (kp : List Int) (w : World) (hp : Pends w vp lp) (hk : Ints w vk kp) (h1 : lp.length ≤ 200) :
    Calls Try.prog 32 #[vp, vk] w fun e w' => ∃ v, e = .returned v ∧ Pends w' v (keptD lp kp) ∧ Below w.heap.size w w' := by
  obtain ⟨a1, cap1, rfl, hc1⟩ := hp
  obtain ⟨a2, cap2, rfl, hc2⟩ := hk
  have HC1 : Hid (∀ j (h : j < lp.length), ∃ b o, a1 = some ⟨b, o, none⟩ ∧ w.cell? ⟨b, o + j * 2, none⟩ = some (.int .i64 lp[j].1) ∧ w.cell? ⟨b, o + j * 2 + 1, none⟩ = some (.string lp[j].2)) := hc1
  have HC2 : Hid (∀ j (h : j < kp.length), ∃ b o, a2 = some ⟨b, o, none⟩ ∧ w.cell? ⟨b, o + j, none⟩ = some (.int .i64 kp[j])) := hc2
  clear hc1 hc2
  go_enter Try.func32, Try.ntmps32
  go_wp2
  go_loopw [5, 10] (fun v i wr => ∃ k : Nat, k ≤ lp.length ∧ i = .int .i64 k ∧ OwnP wr w.heap.size v (keptTo lp kp k) ∧ Below w.heap.size w wr) (fun _ i _ => lp.length - (intOf i).toNat)
  case atStart => exact ⟨0, by omega, rfl, World.ownsRow_nil _ _ _ _, Below.refl _ _⟩
  case round =>
    obtain ⟨k, hk, rfl, hown, hbel⟩ := hrel
    by_cases hlt : k < lp.length
    · obtain ⟨b, o, rfl, d1, d2⟩ := HC1.out k hlt
      have c1 : wr.cell? ⟨b, o + k * 2, none⟩ = _ := (hbel.cell (World.block_lt_of_cell? w _ d1)).trans d1
      have c2 : wr.cell? ⟨b, o + k * 2 + 1, none⟩ = _ := (hbel.cell (World.block_lt_of_cell? w _ d2)).trans d2
      have hz := hbel.size
      have HBA : Hid (∀ o, Below w.heap.size w (wr.alloc o)) := fun o => bA hbel o
      have HLN := keptTo_len lp kp k
      by_cases hin : k < kp.length
      · obtain ⟨b2, o2, rfl, d3⟩ := HC2.out k hin
        have HY : Hid (0 < kp[k] → keptTo lp kp (k + 1) = keptTo lp kp k ++ [(lp[k].1, lp[k].2)]) := fun h => keptTo_yes lp kp k hlt hin h
        have HN : Hid (¬ 0 < kp[k] → keptTo lp kp (k + 1) = keptTo lp kp k) := fun h => keptTo_low lp kp k hin h
        have p1 : (k : Int) < (lp.length : Int) := by omega
        have p2 : (k : Int) < (kp.length : Int) := by omega
        generalize lp[k].1 = x at *
        generalize lp[k].2 = t at *
        have c3 : (wr.alloc (.cells #[.int .i64 x, .string t] 46)).cell? ⟨b2, o2 + k, none⟩ = some (.int .i64 kp[k]) := ((HBA.out _).cell (World.block_lt_of_cell? w _ d3)).trans d3
        generalize kp[k] = q at *
        have HOWN : Hid (∀ o, OwnP (wr.alloc o) w.heap.size u5 (keptTo lp kp k)) := fun o => hown.alloc o
        generalize keptTo lp kp k = kl at *
        clear d1 d2 d3 hown
        by_cases hq : 0 < q
        · have HE : Hid _ := HY.out hq
          go_wp2_with (at_builtin; refine wp_own (by rfl) _ _ (by rfl) w.heap.size (wr.heap.size + 1) u5 kl x t (by rfl) (by rfl) (World.ownsRow.alloc (HOWN.out _) _) (by simp; omega) (by simp) (by simp) (by omega) ?_; intro g cap w1 ho1 hb1 hz1; have HO1 : Hid _ := ho1; have HB1 : Hid _ := hb1; clear ho1 hb1)
          go_roundw
          case rel => exact ⟨k + 1, by omega, by go_num, by rw [HE.out]; exact HO1.out, (bA (HBA.out _) _).trans HB1.out⟩
          case measure => simp [intOf]; omega
        · have HE : Hid _ := HN.out hq
          have hd : decide (0 < q) = false := decide_eq_false hq
          go_wp2
          go_roundw
          case rel => exact ⟨k + 1, by omega, by go_num, by rw [HE.out]; exact HOWN.out _, HBA.out _⟩
          case measure => simp [intOf]; omega
      · have HN : Hid (keptTo lp kp (k + 1) = keptTo lp kp k) := keptTo_out lp kp k hin
        have p1 : (k : Int) < (lp.length : Int) := by omega
        have p2 : ¬ (k : Int) < (kp.length : Int) := by omega
        have hd : decide ((k : Int) < (kp.length : Int)) = false := decide_eq_false p2
        generalize lp[k].1 = x at *
        generalize lp[k].2 = t at *
        have HOWN : Hid (∀ o, OwnP (wr.alloc o) w.heap.size u5 (keptTo lp kp k)) := fun o => hown.alloc o
        generalize keptTo lp kp k = kl at *
        clear d1 d2 hown
        go_wp2
        go_roundw
        case rel => exact ⟨k + 1, by omega, by go_num, by rw [HN.out]; exact HOWN.out _, HBA.out _⟩
        case measure => simp [intOf]; omega
    · have e : k = lp.length := by omega
      subst e
      have HP : Hid (Pends wr u5 (keptD lp kp)) := OwnP.pends hown
      have HB : Hid _ := hbel
      clear hown hbel
      go_wp2
      go_ret
      exact ⟨_, rfl, HP.out, HB.out⟩
end Go.Proofs.Ytonmghpmgjfelaa.Disk
