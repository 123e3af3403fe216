/- What the library's merge of shards answers where the second part alone has one shard. -/
import Derived.Test.YtkanhjafchiikaaSortIns
namespace Go.Proofs.Ytkanhjafchiikaa.Srt
open Go.RowKit Go.Proofs.Ytkanhjafchiikaa.Mem Go.Proofs.Ytkanhjafchiikaa.Harn Go.Proofs.Ytkanhjafchiikaa.Disk

/-- in the midst of the search of the place of the last -/
def M3 (l : List E) (a m g : Nat) (w : World) (iv jv : Value) (wr : World) : Prop := ∃ (i j : Nat), iv = .int .i64 (i : Nat) ∧ jv = .int .i64 (j : Nat) ∧ a ≤ i ∧ i ≤ j ∧ j ≤ m ∧ (∀ x, a ≤ x → x < i → kat l x ≤ kat l m) ∧ (∀ x, j ≤ x → x < m → kat l m < kat l x) ∧ PendsAt wr g 0 l ∧ Only (fun k => k = g) w wr
/-- in the midst of its way -/
def M4 (l : List E) (m i g : Nat) (w : World) (kv : Value) (wq : World) : Prop := ∃ (k : Nat) (lk : List E), kv = .int .i64 (k : Nat) ∧ i ≤ k ∧ k ≤ m ∧ lk.Perm l ∧ (∀ x, lk[x]? = Back l m k x) ∧ PendsAt wq g 0 lk ∧ Only (fun k => k = g) w wq

set_option maxRecDepth 100000 in
set_option maxHeartbeats 2000000 in
theorem mergeLast_any (g cap : Nat) (l : List E) (a m : Nat) (w : World) (h : PendsAt w g 0 l) (ham : a + 1 < m) (hb : m + 1 ≤ l.length) (hl : l.length ≤ 10000) (hs : Sorted l a m) :
    Calls Try.prog 85 #[.slice (some ⟨g, 0, none⟩) l.length cap, .int .i64 (a : Nat), .int .i64 (m : Nat), .int .i64 ((m + 1 : Nat) : Int), .func (.func 63) #[] #[]] w fun e w' => e = .returned (.tuple #[]) ∧ ∃ l', Step l l' a (m + 1) ∧ Sorted l' a (m + 1) ∧ PendsAt w' g 0 l' ∧ Only (fun k => k = g) w w' := by
  have HP : Hid (PendsAt w g 0 l) := h
  have HS : Hid (Sorted l a m) := hs
  have e0 : ((m + 1 : Nat) : Int) = (m : Int) + 1 := by push_cast; rfl
  rw [e0]
  have hb28 : (((m : Int) - (a : Int)) == 1) = false := by rw [beq_eq_false_iff_ne]; omega
  have hb80 : (((m : Int) + 1 - (m : Int)) == 1) = true := by rw [beq_iff_eq]; omega
  clear h hs e0
  go_enter Try.func85, Try.ntmps85
  go_wp2
  go_loopw [14, 15, 16] (fun iv jv _ wr => M3 l a m g w iv jv wr) (fun iv jv _ _ => (intOf jv).toNat - (intOf iv).toNat)
  case atStart => unfold M3; exact ⟨a, m, rfl, rfl, by omega, by omega, by omega, fun x h1 h2 => by omega, fun x h1 h2 => by omega, HP.out, Only.refl _ _⟩
  case round =>
    unfold M3 at hrel
    obtain ⟨i, j, rfl, rfl, g1, g2, g3, hlo, hhi, hpd, hon⟩ := hrel
    have HLO : Hid (∀ x, a ≤ x → x < i → kat l x ≤ kat l m) := hlo
    have HHI : Hid (∀ x, j ≤ x → x < m → kat l m < kat l x) := hhi
    have HPD : Hid (PendsAt wr g 0 l) := hpd
    have HON : Hid (Only (fun k => k = g) w wr) := hon
    clear HP hlo hhi hpd hon
    by_cases hlt : i < j
    · obtain ⟨h, hh⟩ : ∃ h, h = (i + j) / 2 := ⟨_, rfl⟩
      have hh1 : i ≤ h := by omega
      have hh2 : h < j := by omega
      have hmid : ((i : Int) + (j : Int)) / 2 = (h : Int) := by omega
      obtain ⟨c1, c2, _, _⟩ := HPD.out h (by omega)
      obtain ⟨c3, c4, _, _⟩ := HPD.out m (by omega)
      rw [Nat.zero_add] at c1 c2 c3 c4
      have HK : Hid (kat l m < kat l h ↔ l[m].1 < l[h].1) := by show _ ↔ _; rw [kat_at, kat_at]
      have HHD : Hid (h < j ∧ i ≤ h) := ⟨hh2, hh1⟩
      have p0 : (0 : Int) ≤ (h : Int) := by omega
      have p1 : (h : Int) < (l.length : Int) := by omega
      have p2 : (0 : Int) ≤ (m : Int) := by omega
      have p3 : (m : Int) < (l.length : Int) := by omega
      have hgl := World.block_lt_of_cell? wr _ c1
      simp only at hgl
      generalize l[h].1 = x1 at *
      generalize l[h].2 = t1 at *
      generalize l[m].1 = x2 at *
      generalize l[m].2 = t2 at *
      obtain ⟨r, hr⟩ : ∃ r, r = decide (x2 < x1) := ⟨_, rfl⟩
      have hcz : decide (cmpZ x2 x1 < 0) = r := by rw [cmpZ_lt, hr]
      have HR : Hid (r = decide (x2 < x1)) := hr
      clear hr
      clear hh
      go_wp2_with fail
      go_region_held3 (fun w' => w'.cell? ⟨g, h * 2, none⟩ = some (.int .i64 x1) ∧ w'.cell? ⟨g, h * 2 + 1, none⟩ = some (.string t1) ∧ w'.cell? ⟨g, m * 2, none⟩ = some (.int .i64 x2) ∧ w'.cell? ⟨g, m * 2 + 1, none⟩ = some (.string t2))
        (first
          | go_keep
          | (go_split_ands; refine ⟨?_, ?_, ?_, ?_⟩ <;> (rw [hb1.cell (by simpa using hgl)]; first | exact c1 | exact c2 | exact c3 | exact c4)))
        ((go_at_call 63; refine (order_any _ _ _ _ _).mono ?_; rintro e w1 ⟨rfl, hb1⟩))
      have HP1 : Hid (PendsAt w1 g 0 l) := PendsAt.below (at_drew HPD.out) hb1
      have HO1 : Hid (Only (fun k => k = g) w w1) := (only_drew HON.out).trans (Only.of_below _ hb1)
      clear hb1 c1 c2 c3 c4 hgl
      cases r
      · have hlx : ¬ x2 < x1 := fun z => by have := HR.out; rw [decide_eq_true z] at this; cases this
        have HL2 : Hid (∀ x, a ≤ x → x < h + 1 → kat l x ≤ kat l m) := fun x q1 q2 => by
          have h9 := HS.out x h q1 (by omega) (by omega)
          have hnk : ¬ kat l m < kat l h := fun z => hlx (HK.out.mp z)
          omega
        clear HK hlx HR hcz
        go_wp2
        go_roundw
        case rel => unfold M3; exact ⟨h + 1, j, by go_num, rfl, by omega, by omega, by omega, HL2.out, HHI.out, HP1.out, HO1.out⟩
        case measure => simp [intOf]; omega
      · have hlx : x2 < x1 := of_decide_eq_true HR.out.symm
        have HL2 : Hid (∀ x, h ≤ x → x < m → kat l m < kat l x) := fun x q1 q2 => by
          have := HS.out h x (by omega) q1 q2
          have := HK.out.mpr hlx
          omega
        clear HK hlx HR hcz
        go_wp2
        go_roundw
        case rel => unfold M3; exact ⟨i, h, rfl, rfl, by omega, by omega, by omega, HLO.out, HL2.out, HP1.out, HO1.out⟩
        case measure => simp [intOf]; omega
    · obtain rfl : i = j := by omega
      go_wp2
      go_loopw [17] (fun kv wq => M4 l m i g w kv wq) (fun kv _ => (intOf kv).toNat)
      case atStart => unfold M4; exact ⟨m, l, rfl, by omega, by omega, List.Perm.refl _, back_start l m, HPD.out, HON.out⟩
      case round =>
        clear HPD HON
        unfold M4 at hrel
        obtain ⟨k, lk, rfl, q1, q2, hpm, hld, hpd, hon⟩ := hrel
        have HLN : Hid (l.length = lk.length) := hpm.length_eq.symm
        have HPM : Hid (lk.Perm l) := hpm
        have HLD : Hid (∀ x, lk[x]? = Back l m k x) := hld
        have HPD : Hid (PendsAt wr g 0 lk) := hpd
        have HON : Hid (Only (fun k => k = g) w wr) := hon
        clear hpm hld hpd hon
        by_cases hk : i < k
        · obtain ⟨p, rfl⟩ : ∃ p, k = p + 1 := ⟨k - 1, by omega⟩
          have hln := HLN.out
          obtain ⟨c1, c2, f1, f2⟩ := HPD.out (p + 1) (by omega)
          obtain ⟨c3, c4, f3, f4⟩ := HPD.out p (by omega)
          rw [Nat.zero_add] at c1 c2 f1 f2 c3 c4 f3 f4
          have HMW : Hid _ := swap_mem HPD.out (i := p + 1) (j := p) (by omega) (by omega)
          have HPS : Hid ((swapL lk (p + 1) p).Perm l) := (swapL_perm (by omega) (by omega)).trans HPM.out
          have HLS : Hid (∀ x, (swapL lk (p + 1) p)[x]? = Back l m p x) := back_step HLD.out (by omega) (by omega) (by omega)
          have e1 : ((p + 1 : Nat) : Int) = (p : Int) + 1 := by push_cast; rfl
          rw [e1]
          have p1 : (p : Int) + 1 < (l.length : Int) := by omega
          have p2 : (p : Int) < (l.length : Int) := by omega
          have p0 : (0 : Int) ≤ (p : Int) + 1 := by omega
          have p5 : (0 : Int) ≤ (p : Int) := by omega
          have p6 : (p : Int) + 1 - 1 = (p : Int) := by omega
          have p7 : IntKind.i64.wrap (p : Int) = (p : Int) := IntWalk.i64_in _ ⟨by omega, by omega⟩
          have p8 : (i : Int) < (p : Int) + 1 := by omega
          generalize lk[p].1 = x1 at *
          generalize lk[p].2 = t1 at *
          generalize lk[p + 1].1 = x2 at *
          generalize lk[p + 1].2 = t2 at *
          clear hln e1
          go_wp2_with fail
          go_region
          go_wp2
          go_roundw
          case rel => unfold M4; exact ⟨p, swapL lk (p + 1) p, rfl, by omega, by omega, HPS.out, HLS.out, HMW.out, only_drew (HON.out.trans swap_only)⟩
          case measure => simp [intOf]
        · obtain rfl : k = i := by omega
          have HE := back_end HPM.out HLD.out g1 q2 HS.out (fun x z1 z2 => by have := HLO.out x z1 z2; omega) HHI.out
          have HE' : Hid (Step l lk a (m + 1) ∧ Sorted lk a (m + 1)) := HE
          clear HE
          go_wp2
          first
            | exact bodyPost_ret (v := .tuple #[]) (by simp [results, Try.results85]) rfl ⟨rfl, lk, HE'.out.1, HE'.out.2, HPD.out, HON.out⟩
            | exact bodyPost_end (v := .tuple #[]) (by simp [results, Try.results85]) rfl ⟨rfl, lk, HE'.out.1, HE'.out.2, HPD.out, HON.out⟩
end Go.Proofs.Ytkanhjafchiikaa.Srt
