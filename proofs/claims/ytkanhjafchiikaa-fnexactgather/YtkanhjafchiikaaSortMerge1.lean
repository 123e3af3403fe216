/- What the library's merge of shards answers where one of the two parts has one shard. -/
import Derived.Test.YtkanhjafchiikaaSortIns
namespace Go.Proofs.Ytkanhjafchiikaa.Srt
open Go.RowKit Go.Proofs.Ytkanhjafchiikaa.Mem Go.Proofs.Ytkanhjafchiikaa.Harn Go.Proofs.Ytkanhjafchiikaa.Disk

/-- in the midst of the search of the place of the first -/
def M1 (l : List E) (a b g : Nat) (w : World) (iv jv : Value) (wr : World) : Prop := ∃ (i j : Nat), iv = .int .i64 (i : Nat) ∧ jv = .int .i64 (j : Nat) ∧ a + 1 ≤ i ∧ i ≤ j ∧ j ≤ b ∧ (∀ x, a + 1 ≤ x → x < i → kat l x < kat l a) ∧ (∀ x, j ≤ x → x < b → kat l a ≤ kat l x) ∧ PendsAt wr g 0 l ∧ Only (fun k => k = g) w wr
/-- in the midst of its way -/
def M2 (l : List E) (a i g : Nat) (w : World) (kv : Value) (wq : World) : Prop := ∃ (k : Nat) (lk : List E), kv = .int .i64 (k : Nat) ∧ a ≤ k ∧ k + 1 ≤ i ∧ lk.Perm l ∧ (∀ x, lk[x]? = Led l a k x) ∧ PendsAt wq g 0 lk ∧ Only (fun k => k = g) w wq

set_option maxRecDepth 100000 in
set_option maxHeartbeats 2000000 in
theorem mergeFirst_any (g cap : Nat) (l : List E) (a b : Nat) (w : World) (h : PendsAt w g 0 l) (hab : a + 1 < b) (hb : b ≤ l.length) (hl : l.length ≤ 10000) (hs : Sorted l (a + 1) b) :
    Calls Try.prog 85 #[.slice (some ⟨g, 0, none⟩) l.length cap, .int .i64 (a : Nat), .int .i64 ((a + 1 : Nat) : Int), .int .i64 (b : Nat), .func (.func 63) #[] #[]] w fun e w' => e = .returned (.tuple #[]) ∧ ∃ l', Step l l' a b ∧ Sorted l' a b ∧ PendsAt w' g 0 l' ∧ Only (fun k => k = g) w w' := by
  have HP : Hid (PendsAt w g 0 l) := h
  have HS : Hid (Sorted l (a + 1) b) := hs
  have e0 : ((a + 1 : Nat) : Int) = (a : Int) + 1 := by push_cast; rfl
  rw [e0]
  have hb28 : (((a : Int) + 1 - (a : Int)) == 1) = true := by rw [beq_iff_eq]; omega
  clear h hs e0
  go_enter Try.func85, Try.ntmps85
  go_wp2
  go_loopw [10, 11, 12] (fun iv jv _ wr => M1 l a b g w iv jv wr) (fun iv jv _ _ => (intOf jv).toNat - (intOf iv).toNat)
  case atStart => unfold M1; exact ⟨a + 1, b, by go_num, rfl, by omega, by omega, by omega, fun x h1 h2 => by omega, fun x h1 h2 => by omega, HP.out, Only.refl _ _⟩
  case round =>
    unfold M1 at hrel
    obtain ⟨i, j, rfl, rfl, g1, g2, g3, hlo, hhi, hpd, hon⟩ := hrel
    have HLO : Hid (∀ x, a + 1 ≤ x → x < i → kat l x < kat l a) := hlo
    have HHI : Hid (∀ x, j ≤ x → x < b → kat l a ≤ kat l x) := hhi
    have HPD : Hid (PendsAt wr g 0 l) := hpd
    have HON : Hid (Only (fun k => k = g) w wr) := hon
    clear HP hlo hhi hpd hon
    by_cases hlt : i < j
    · obtain ⟨h, hh⟩ : ∃ h, h = (i + j) / 2 := ⟨_, rfl⟩
      have hh1 : i ≤ h := by omega
      have hh2 : h < j := by omega
      have HH : Hid (h = (i + j) / 2) := hh
      have hmid : ((i : Int) + (j : Int)) / 2 = (h : Int) := by omega
      obtain ⟨c1, c2, _, _⟩ := HPD.out h (by omega)
      obtain ⟨c3, c4, _, _⟩ := HPD.out a (by omega)
      rw [Nat.zero_add] at c1 c2 c3 c4
      have HK : Hid (kat l h < kat l a ↔ l[h].1 < l[a].1) := by show _ ↔ _; rw [kat_at, kat_at]
      have p0 : (0 : Int) ≤ (h : Int) := by omega
      have p1 : (h : Int) < (l.length : Int) := by omega
      have p2 : (0 : Int) ≤ (a : Int) := by omega
      have p3 : (a : Int) < (l.length : Int) := by omega
      have hgl := World.block_lt_of_cell? wr _ c1
      simp only at hgl
      generalize l[h].1 = x1 at *
      generalize l[h].2 = t1 at *
      generalize l[a].1 = x2 at *
      generalize l[a].2 = t2 at *
      have hcz := cmpZ_lt x1 x2
      clear hh
      go_wp2_with fail
      go_region_held3 (fun w' => w'.cell? ⟨g, h * 2, none⟩ = some (.int .i64 x1) ∧ w'.cell? ⟨g, h * 2 + 1, none⟩ = some (.string t1) ∧ w'.cell? ⟨g, a * 2, none⟩ = some (.int .i64 x2) ∧ w'.cell? ⟨g, a * 2 + 1, none⟩ = some (.string t2))
        (first
          | go_keep
          | (go_split_ands; refine ⟨?_, ?_, ?_, ?_⟩ <;> (rw [hb1.cell (by simpa using hgl)]; first | exact c1 | exact c2 | exact c3 | exact c4)))
        ((go_at_call 63; refine (order_any _ _ _ _ _).mono ?_; rintro e w1 ⟨rfl, hb1⟩))
      have HP1 : Hid (PendsAt w1 g 0 l) := PendsAt.below (at_drew HPD.out) hb1
      have HO1 : Hid (Only (fun k => k = g) w w1) := (only_drew HON.out).trans (Only.of_below _ hb1)
      clear hb1 c1 c2 c3 c4 hgl
      by_cases hlx : x1 < x2
      · have HL2 : Hid (∀ x, a + 1 ≤ x → x < h + 1 → kat l x < kat l a) := fun x q1 q2 => by
          have := HS.out x h q1 (by omega) (by omega)
          have := HK.out.mpr hlx
          omega
        clear HK
        go_wp2
        go_roundw
        case rel => unfold M1; exact ⟨h + 1, j, by go_num, rfl, by omega, by omega, by omega, HL2.out, HHI.out, HP1.out, HO1.out⟩
        case measure => simp [intOf]; omega
      · have HL2 : Hid (∀ x, h ≤ x → x < b → kat l a ≤ kat l x) := fun x q1 q2 => by
          have := HS.out h x (by omega) q1 q2
          have hnk : ¬ kat l h < kat l a := fun z => hlx (HK.out.mp z)
          omega
        have hdl : decide (x1 < x2) = false := decide_eq_false hlx
        clear HK
        go_wp2
        go_roundw
        case rel => unfold M1; exact ⟨i, h, rfl, rfl, by omega, by omega, by omega, HLO.out, HL2.out, HP1.out, HO1.out⟩
        case measure => simp [intOf]; omega
    · obtain rfl : i = j := by omega
      go_wp2
      go_loopw [13] (fun kv wq => M2 l a i g w kv wq) (fun kv _ => i - (intOf kv).toNat)
      case atStart => unfold M2; exact ⟨a, l, rfl, by omega, by omega, List.Perm.refl _, led_start l a, HPD.out, HON.out⟩
      case round =>
        clear HPD HON
        unfold M2 at hrel
        obtain ⟨k, lk, rfl, q1, q2, hpm, hld, hpd, hon⟩ := hrel
        have HLN : Hid (l.length = lk.length) := hpm.length_eq.symm
        have HPM : Hid (lk.Perm l) := hpm
        have HLD : Hid (∀ x, lk[x]? = Led l a k x) := hld
        have HPD : Hid (PendsAt wr g 0 lk) := hpd
        have HON : Hid (Only (fun k => k = g) w wr) := hon
        clear hpm hld hpd hon
        by_cases hk : k + 1 < i
        · have hln := HLN.out
          obtain ⟨c1, c2, f1, f2⟩ := HPD.out k (by omega)
          obtain ⟨c3, c4, f3, f4⟩ := HPD.out (k + 1) (by omega)
          rw [Nat.zero_add] at c1 c2 f1 f2 c3 c4 f3 f4
          have HMW : Hid _ := swap_mem HPD.out (i := k) (j := k + 1) (by omega) (by omega)
          have HPS : Hid ((swapL lk k (k + 1)).Perm l) := (swapL_perm (by omega) (by omega)).trans HPM.out
          have HLS : Hid (∀ x, (swapL lk k (k + 1))[x]? = Led l a (k + 1) x) := led_step HLD.out q1 (by omega)
          have p1 : (k : Int) + 1 < (l.length : Int) := by omega
          have p2 : (k : Int) < (l.length : Int) := by omega
          have p3 : (k : Int) < (i : Int) - 1 := by omega
          generalize lk[k].1 = x1 at *
          generalize lk[k].2 = t1 at *
          generalize lk[k + 1].1 = x2 at *
          generalize lk[k + 1].2 = t2 at *
          clear hln
          go_wp2_with fail
          go_region
          go_wp2
          go_roundw
          case rel => unfold M2; exact ⟨k + 1, swapL lk k (k + 1), by go_num, by omega, by omega, HPS.out, HLS.out, HMW.out, only_drew (HON.out.trans swap_only)⟩
          case measure => simp [intOf]; omega
        · obtain rfl : k = i - 1 := by omega
          have HE := led_end HPM.out HLD.out (by omega) g3 HS.out HLO.out (fun x z1 z2 => by have := HHI.out x z1 z2; omega)
          have HE' : Hid (Step l lk a b ∧ Sorted lk a b) := HE
          have p3 : ¬ ((i - 1 : Nat) : Int) < (i : Int) - 1 := by omega
          clear HE
          go_wp2
          first
            | exact bodyPost_ret (v := .tuple #[]) (by simp [results, Try.results85]) rfl ⟨rfl, lk, HE'.out.1, HE'.out.2, HPD.out, HON.out⟩
            | exact bodyPost_end (v := .tuple #[]) (by simp [results, Try.results85]) rfl ⟨rfl, lk, HE'.out.1, HE'.out.2, HPD.out, HON.out⟩
end Go.Proofs.Ytkanhjafchiikaa.Srt
