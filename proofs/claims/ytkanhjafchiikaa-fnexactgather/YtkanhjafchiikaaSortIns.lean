/- What the library's insertion sort of shards answers. -/
import Derived.Test.YtkanhjafchiikaaSortSwap
namespace Go.Proofs.Ytkanhjafchiikaa.Srt
open Go.RowKit Go.Proofs.Ytkanhjafchiikaa.Mem Go.Proofs.Ytkanhjafchiikaa.Harn Go.Proofs.Ytkanhjafchiikaa.Disk

theorem only_drewN {p : Nat → Prop} {w w' : World} (h : Only p w w') (n : Nat) : Only p w (w'.drewN n) := ⟨h.os, h.tape, h.output, h.size, h.block⟩
theorem Sorted.sub {l : List E} {a b c : Nat} (h : Sorted l a b) (hc : c ≤ b) : Sorted l a c := fun x y h1 h2 h3 => h x y h1 h2 (by omega)

set_option maxRecDepth 100000 in
set_option maxHeartbeats 2000000 in
theorem insertion_any (g cap : Nat) (l : List E) (a b : Nat) (w : World) (h : PendsAt w g 0 l) (hab : a ≤ b) (hb : b ≤ l.length) (hl : l.length ≤ 10000) :
    Calls Try.prog 84 #[.slice (some ⟨g, 0, none⟩) l.length cap, .int .i64 (a : Nat), .int .i64 (b : Nat), .func (.func 63) #[] #[]] w fun e w' => e = .returned (.tuple #[]) ∧ ∃ l', Step l l' a b ∧ Sorted l' a b ∧ PendsAt w' g 0 l' ∧ Only (fun k => k = g) w w' := by
  have HP : Hid (PendsAt w g 0 l) := h
  clear h
  go_enter Try.func84, Try.ntmps84
  go_wp2
  go_loopw [8, 9] (fun i _ wr => ∃ (k : Nat) (lk : List E), a < k ∧ k ≤ b + 1 ∧ i = .int .i64 k ∧ Step l lk a b ∧ Sorted lk a k ∧ PendsAt wr g 0 lk ∧ Only (fun k => k = g) w wr) (fun i _ _ => b + 1 - (intOf i).toNat)
  case atStart => exact ⟨a + 1, l, by omega, by omega, by go_num, Step.refl _ _ _, Sorted.one (by omega), HP.out, Only.refl _ _⟩
  case round =>
    obtain ⟨k, lk, hk0, hk, rfl, hst, hso, hpd, hon⟩ := hrel
    have HLN : Hid (l.length = lk.length) := hst.len.symm
    have HST : Hid (Step l lk a b) := hst
    have HSO : Hid (Sorted lk a k) := hso
    have HPD : Hid (PendsAt wr g 0 lk) := hpd
    have HON : Hid (Only (fun k => k = g) w wr) := hon
    clear HP hst hso hpd hon
    by_cases hlt : k < b
    · go_wp2
      go_loopw [9] (fun j wq => ∃ (j' : Nat) (lj : List E), j = .int .i64 (j' : Nat) ∧ Step l lj a b ∧ Ins lj a k j' ∧ PendsAt wq g 0 lj ∧ Only (fun k => k = g) w wq) (fun j _ => (intOf j).toNat)
      case atStart => exact ⟨k, lk, rfl, HST.out, ins_start HSO.out (by omega), HPD.out, HON.out⟩
      case round =>
        clear HST HSO HPD HON HLN
        obtain ⟨j, lj, rfl, hst, hin, hpd, hon⟩ := hrel
        have HLN : Hid (l.length = lj.length) := hst.len.symm
        have HST : Hid (Step l lj a b) := hst
        have HIN : Hid (Ins lj a k j) := hin
        have HPD : Hid (PendsAt wr g 0 lj) := hpd
        have HON : Hid (Only (fun k => k = g) w wr) := hon
        have g1 : a ≤ j := hin.1
        have g2 : j ≤ k := hin.2.1
        clear hst hin hpd hon
        by_cases hj : a < j
        · obtain ⟨p, rfl⟩ : ∃ p, j = p + 1 := ⟨j - 1, by omega⟩
          have hln := HLN.out
          obtain ⟨c1, c2, f1, f2⟩ := HPD.out (p + 1) (by omega)
          obtain ⟨c3, c4, f3, f4⟩ := HPD.out p (by omega)
          rw [Nat.zero_add] at c1 c2 f1 f2 c3 c4 f3 f4
          have e1 : ((p + 1 : Nat) : Int) = (p : Int) + 1 := by push_cast; rfl
          rw [e1]
          have HK : Hid (kat lj (p + 1) < kat lj p ↔ lj[p + 1].1 < lj[p].1) := by show _ ↔ _; rw [kat_at, kat_at]
          have HM1 : Hid (∀ W, PendsAt W g 0 lj → PendsAt ((((W.setCell ⟨g, (p + 1) * 2, none⟩ (.int .i64 lj[p].1)).setCell ⟨g, (p + 1) * 2 + 1, none⟩ (.string lj[p].2)).setCell ⟨g, p * 2, none⟩ (.int .i64 lj[p + 1].1)).setCell ⟨g, p * 2 + 1, none⟩ (.string lj[p + 1].2)) g 0 (swapL lj (p + 1) p)) := fun W hW => swap_mem hW (i := p + 1) (j := p) (by omega) (by omega)
          have HSW : Hid (Step l (swapL lj (p + 1) p) a b) := HST.out.trans (swap_step (by omega) (by omega) (by omega) (by omega) (by omega))
          have p1 : (a : Int) < (p : Int) + 1 := by omega
          have p2 : (p : Int) + 1 < (l.length : Int) := by omega
          have p3 : (p : Int) < (l.length : Int) := by omega
          have p0 : (0 : Int) ≤ (p : Int) + 1 := by omega
          have p5 : (0 : Int) ≤ (p : Int) := by omega
          have p6 : (p : Int) + 1 - 1 = (p : Int) := by omega
          have p7 : IntKind.i64.wrap (p : Int) = (p : Int) := IntWalk.i64_in _ ⟨by omega, by omega⟩
          have p4 : decide ((a : Int) < (p : Int) + 1) = true := decide_eq_true p1
          have hgl := World.block_lt_of_cell? wr _ c1
          simp only at hgl
          have hon := HON.out.size
          generalize lj[p + 1].1 = x1 at *
          generalize lj[p + 1].2 = t1 at *
          generalize lj[p].1 = x2 at *
          generalize lj[p].2 = t2 at *
          have hcz := cmpZ_lt x1 x2
          clear e1 hln
          go_wp2_with fail
          go_region_held3 (fun w' => w'.cell? ⟨g, (p + 1) * 2, none⟩ = some (.int .i64 x1) ∧ w'.cell? ⟨g, (p + 1) * 2 + 1, none⟩ = some (.string t1) ∧ w'.cell? ⟨g, p * 2, none⟩ = some (.int .i64 x2) ∧ w'.cell? ⟨g, p * 2 + 1, none⟩ = some (.string t2))
            (first
              | go_keep
              | (go_split_ands; refine ⟨?_, ?_, ?_, ?_⟩ <;> (rw [hb1.cell (by simpa using hgl)]; first | exact c1 | exact c2 | exact c3 | exact c4)))
            ((go_at_call 63; refine (order_any _ _ _ _ _).mono ?_; rintro e w1 ⟨rfl, hb1⟩))
          have HP1 : Hid (PendsAt w1 g 0 lj) := PendsAt.below (at_drew HPD.out) hb1
          have HO1 : Hid (Only (fun k => k = g) w w1) := (only_drew HON.out).trans (Only.of_below _ hb1)
          have d1 : w1.cell? ⟨g, (p + 1) * 2, none⟩ = some (.int .i64 x1) := by rw [hb1.cell (by simpa using hgl)]; exact c1
          have d2 : w1.cell? ⟨g, (p + 1) * 2 + 1, none⟩ = some (.string t1) := by rw [hb1.cell (by simpa using hgl)]; exact c2
          have d3 : w1.cell? ⟨g, p * 2, none⟩ = some (.int .i64 x2) := by rw [hb1.cell (by simpa using hgl)]; exact c3
          have d4 : w1.cell? ⟨g, p * 2 + 1, none⟩ = some (.string t2) := by rw [hb1.cell (by simpa using hgl)]; exact c4
          have b1 : w1.frozen? ⟨g, (p + 1) * 2, none⟩ = false := by rw [hb1.frozen (by simpa using hgl)]; exact f1
          have b2 : w1.frozen? ⟨g, (p + 1) * 2 + 1, none⟩ = false := by rw [hb1.frozen (by simpa using hgl)]; exact f2
          have b3 : w1.frozen? ⟨g, p * 2, none⟩ = false := by rw [hb1.frozen (by simpa using hgl)]; exact f3
          have b4 : w1.frozen? ⟨g, p * 2 + 1, none⟩ = false := by rw [hb1.frozen (by simpa using hgl)]; exact f4
          have HMW : Hid _ := HM1.out w1 HP1.out
          clear hb1 c1 c2 c3 c4 f1 f2 f3 f4 hgl hon
          by_cases hlx : x1 < x2
          · have HIN2 : Hid (Ins (swapL lj (p + 1) p) a k p) := ins_step HIN.out hj (by have := HLN.out; omega) (HK.out.mpr hlx)
            clear HK HM1
            go_wp2_with fail
            go_region
            go_wp2
            go_roundw
            case rel => exact ⟨p, swapL lj (p + 1) p, rfl, HSW.out, HIN2.out, HMW.out, only_drew (HO1.out.trans swap_only)⟩
            case measure => simp [intOf]
          · have HSE : Hid (Sorted lj a (k + 1)) := ins_end HIN.out (.inr (fun h => hlx (HK.out.mp h)))
            have hdl : decide (x1 < x2) = false := decide_eq_false hlx
            clear HK HM1 HMW
            go_wp2
            go_roundw
            case rel => exact ⟨k + 1, lj, by omega, by omega, by go_num, HST.out, HSE.out, HP1.out, HO1.out⟩
            case measure => simp [intOf]; omega
        · obtain rfl : j = a := by omega
          have HSE : Hid (Sorted lj j (k + 1)) := ins_end HIN.out (.inl rfl)
          have hja : decide ((j : Int) < (j : Int)) = false := by simp
          go_wp2_with fail
          go_quiet (fail)
          go_wp2
          go_roundw
          case rel => exact ⟨k + 1, lj, by omega, by omega, by go_num, HST.out, HSE.out, HPD.out, only_drewN HON.out _⟩
          case measure => simp [intOf]; omega
    · have HSE : Hid (Sorted lk a b) := Sorted.sub HSO.out (by omega)
      go_wp2
      exact bodyPost_end (v := .tuple #[]) (by simp [results, Try.results84]) rfl ⟨rfl, lk, HST.out, HSE.out, HPD.out, HON.out⟩
end Go.Proofs.Ytkanhjafchiikaa.Srt
