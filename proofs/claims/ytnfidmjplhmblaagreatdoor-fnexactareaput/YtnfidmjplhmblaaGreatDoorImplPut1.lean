/- The program's steps of a text, and the first of the steps. -/
import Derived.Test.YtnfidmjplhmblaaGreatDoorPutPure
import Derived.Test.YtnfidmjplhmblaaGreatDoorImplSteps
import Derived.Test.YtnfidmjplhmblaaGreatDoorImplKept
namespace Go.Proofs.YtnfidmjplhmblaaGreatDoor.Disk
open Go.RowKit Go.Proofs.YtnfidmjplhmblaaGreatDoor.Mem Go.Proofs.YtnfidmjplhmblaaGreatDoor.Harn Go.Proofs.YtnfidmjplhmblaaGreatDoor.DiskP

theorem steps1 {W : World} {b : Nat} {f : Bool} {x : Int} {h : ByteArray} (hr : HasRow W b [.bool f, .int .i64 x, .string h] 93) : Steps W (.slice (some ⟨b, 0, none⟩) 1 1) [(f, x, h)] := by
  refine ⟨some ⟨b, 0, none⟩, 1, rfl, fun j hj => ⟨b, 0, rfl, ?_⟩⟩
  match j, hj with
  | 0, _ => exact ⟨Mem.cell_of_row hr 0, Mem.cell_of_row hr 1, Mem.cell_of_row hr 2⟩
theorem wp_step1 {w : World} {ops : Array Oper} {rest : List Oper} {o : Oper} {a : Act} {Q : Exit → Act → World → Prop} (hgd : o.guard = none) (s x : Operand)
    (ho : o.op = .call { callee := .builtin .append, args := #[s, x], argTypes := #[64, 64] }) (base b : Nat) (v : Value) (l : List Step) (y : Step) (hs : a.eval s = v) (hx : a.eval x = .slice (some ⟨b, 0, none⟩) 1 1)
    (h : OwnS w base v l) (hbase : base ≤ w.heap.size) (hm : Steps w (.slice (some ⟨b, 0, none⟩) 1 1) [y]) (hn : l.length ≤ 1000000)
    (hK : ∀ g cap w', OwnS w' base (.slice (some ⟨g, 0, none⟩) (l.length + 1) cap) (l ++ [y]) → Below base w w' → w.heap.size ≤ w'.heap.size → wpList Tryz.prog ops Q rest (a.put o.dst (.slice (some ⟨g, 0, none⟩) (l.length + 1) cap)) w') : wpList Tryz.prog ops Q (o :: rest) a w := by
  obtain ⟨g', cap, w', hr, a1, a2, a3⟩ := app_steps o.type base b 0 1 v l [y] w h hbase hm (by simp) (by simp; omega)
  exact wp_app hgd s x _ ho _ _ _ w' hs hx hr (hK g' cap w' a1 ((Below.refl base w).grown a3 hbase (fun j hj => (World.ownsRow.lt h j hj).1)) a3.size)
theorem rest_piece (s : ByteArray) (k : Nat) (h : 64 * k < s.size) : (s.extract (64 * k) s.size).extract 0 (min (s.size - 64 * k) 64) = pieceN s k ∧ (s.extract (64 * k) s.size).extract (min (s.size - 64 * k) 64) (s.size - 64 * k) = s.extract (64 * (k + 1)) s.size := by
  unfold pieceN
  constructor
  · rw [ByteArray.extract_extract]
    congr 1 <;> omega
  · rw [ByteArray.extract_extract]
    by_cases hq : s.size - 64 * k ≤ 64
    · refine Unseal.ba_ext ?_
      simp
      rw [List.drop_eq_nil_of_le (by simp; omega), List.drop_eq_nil_of_le (by simp; omega), List.take_nil, List.take_nil]
    · congr 1 <;> omega

set_option maxRecDepth 100000 in
set_option maxHeartbeats 2000000 in
theorem textSteps_any (s : ByteArray) (st : Nat) (w : World) (hs : s.size ≤ 8000) (hst : st ≤ 64) :
    Calls Tryz.prog 30 #[.string s, .int .i64 (st : Int)] w fun e w' => ∃ v, e = .returned v ∧ OwnS w' w.heap.size v (textS s st) ∧ Below w.heap.size w w' := by
  have hT : textN s = (s.size + 63) / 64 := rfl
  have HP : Hid (∀ k, 64 * k < s.size → (s.extract (64 * k) s.size).extract 0 (min (s.size - 64 * k) 64) = pieceN s k ∧ (s.extract (64 * k) s.size).extract (min (s.size - 64 * k) 64) (s.size - 64 * k) = s.extract (64 * (k + 1)) s.size) := fun k h => rest_piece s k h
  have HTS : Hid (textS s st = preS s st (textN s) ++ [(true, 0, ByteArray.empty)]) := rfl
  have HSU : Hid (∀ k, preS s st (k + 1) = preS s st k ++ [(false, (st : Int) + (k : Int), pieceN s k)]) := fun k => by rw [preS_succ, Int.natCast_add]
  have HS0 : Hid (s = s.extract (64 * 0) s.size) := by unfold Hid; simp
  have HZS : Hid (∀ k, (s.extract (64 * k) s.size).size = s.size - 64 * k) := fun k => by simp
  have HLN : Hid (∀ k, (preS s st k).length = k) := fun k => preS_len s st k
  have HPZ : Hid (∀ k, (pieceN s k).size ≤ 64) := fun k => piece_size s k
  generalize textN s = T at *
  generalize textS s st = R at *
  generalize preS s st = pr at *
  generalize hpc : pieceN s = pc at *
  go_enter Tryz.func30, Tryz.ntmps30
  go_wp2_with fail
  go_loopw [0, 5, 6] (fun t v i W => ∃ k : Nat, k ≤ T ∧ t = .string (s.extract (64 * k) s.size) ∧ i = .int .i64 ((st : Int) + (k : Int)) ∧ Hid (OwnS W w.heap.size v (pr k)) ∧ Hid (Below w.heap.size w W)) (fun _ _ i _ => T + st - (intOf i).toNat)
  case atStart => exact ⟨0, by omega, by rw [← HS0.out], by simp, by have h := HLN.out 0; rw [List.eq_nil_of_length_eq_zero h]; exact ownS_nil _ _, Below.refl _ _⟩
  case round =>
    obtain ⟨k, hk, rfl, rfl, HOW, HBW⟩ := hrel
    have hz := HZS.out k
    have hzw := HBW.out.size
    by_cases hlt : k < T
    · have hkT : k + 1 ≤ T := hlt
      have hks : 64 * k < s.size := by omega
      obtain ⟨h1, h2⟩ := HP.out k hks
      have hsu := HSU.out k
      have hpz := HPZ.out k
      generalize hpk : pc k = p at *
      obtain ⟨c, hc⟩ : ∃ c, min (s.size - 64 * k) 64 = c := ⟨_, rfl⟩
      rw [hc] at h1 h2
      have hll := HLN.out k
      have HRE : Hid (s.extract (64 * (k + 1)) s.size = (s.extract (64 * k) s.size).extract c (s.size - 64 * k)) := h2.symm
      obtain ⟨t, ht⟩ : ∃ t, s.extract (64 * k) s.size = t := ⟨_, rfl⟩
      rw [ht] at hz h1 HRE ⊢
      obtain ⟨t2, ht2⟩ : ∃ t2, t.extract c (s.size - 64 * k) = t2 := ⟨_, rfl⟩
      rw [ht2] at HRE
      have hpsz : p.size = c := by rw [← h1]; simp; omega
      have ht3 : t.extract c t.size = t2 := by rw [hz]; exact ht2
      have hmn : ∀ W, (Builtin.min_ #[3, 3] 3 #[.int .i64 (t.size : Int), .int .i64 64]).run Tryz.prog W = .ok (.int .i64 (c : Int)) W := fun W => by
        by_cases hh : (t.size : Int) ≤ 64
        · have e : (c : Int) = (t.size : Int) := by omega
          rw [e]
          simp [Builtin.min_, Builtin.min2]
          try omega
        · have e : (c : Int) = 64 := by omega
          rw [e]
          simp [Builtin.min_, Builtin.min2]
          try omega
      have htp : (0 : Int) < (t.size : Int) := by omega
      have hct : (c : Int) ≤ (t.size : Int) := by omega
      have hcn : ¬ t.size < c := by omega
      have HSUH : Hid (pr (k + 1) = pr k ++ [(false, (st : Int) + (k : Int), p)]) := hsu
      have h64 : t.size ≤ 8000 := by omega
      have hlb : (pr k).length ≤ 1000000 := by omega
      have hTb : T ≤ 200 := by omega
      clear hsu h2 ht ht2 hpk hpc hc hz hk hlt hks hT hll
      generalize pr k = lk at *
      go_wp2_with (at_builtin; refine wp_step1 (by rfl) _ _ (by rfl) w.heap.size wr.heap.size u5 lk (false, (st : Int) + (k : Int), p) (by rfl) (by rfl) (OwnS.below HOW.out (bself _)) (by simp; omega) (steps1 (Sha.row_new wr [.bool false, .int .i64 ((st : Int) + (k : Int)), .string p] 93)) hlb ?_; intro g cap w1 ho1 hb1 hz1; have HO1 : Hid _ := ho1; have HB1 : Hid (Below w.heap.size w w1) := (bA HBW.out _).trans hb1; clear ho1 hb1)
      go_roundw
      case rel => exact ⟨k + 1, hkT, by rw [HRE.out], by go_num, by rw [HSUH.out]; exact HO1.out, HB1.out⟩
      case measure => simp [intOf]; omega
    · have e : k = T := by omega
      have htz : (s.extract (64 * k) s.size).size = 0 := by omega
      have HTS2 : Hid (R = pr k ++ [(true, 0, ByteArray.empty)]) := by rw [e]; exact HTS.out
      have hll := HLN.out k
      have hlb : (pr k).length ≤ 1000000 := by omega
      clear hz hT hll
      generalize s.extract (64 * k) s.size = t at *
      generalize pr k = lk at *
      go_wp2_with (at_builtin; refine wp_step1 (by rfl) _ _ (by rfl) w.heap.size wr.heap.size u5 lk (true, 0, ByteArray.empty) (by rfl) (by rfl) (OwnS.below HOW.out (bself _)) (by simp; omega) (steps1 (Sha.row_new wr [.bool true, .int .i64 0, .string ByteArray.empty] 93)) hlb ?_; intro g cap w1 ho1 hb1 hz1; have HO1 : Hid _ := ho1; have HB1 : Hid (Below w.heap.size w w1) := (bA HBW.out _).trans hb1; clear ho1 hb1)
      go_ret
      exact ⟨_, rfl, by rw [HTS2.out]; exact HO1.out, HB1.out⟩
end Go.Proofs.YtnfidmjplhmblaaGreatDoor.Disk
