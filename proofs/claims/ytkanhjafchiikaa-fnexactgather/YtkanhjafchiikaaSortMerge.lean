/- What the library's merge of shards answers. -/
import Derived.Test.YtkanhjafchiikaaSortMerge1
import Derived.Test.YtkanhjafchiikaaSortMerge2
import Derived.Deep.Cut
import Derived.Deep.DeepCutAuto
namespace Go.Proofs.Ytkanhjafchiikaa.Srt
open Go.RowKit Go.Proofs.Ytkanhjafchiikaa.Mem Go.Proofs.Ytkanhjafchiikaa.Harn Go.Proofs.Ytkanhjafchiikaa.Disk

theorem val_int' {a b : Int} (h : a = b) : Value.int .i64 a = .int .i64 b := by rw [h]
theorem cut_of {l : List E} {a m b s s0 r0 mid : Nat} (hmid : mid = (a + b) / 2) (ham : a < m) (hmb : m < b) (h0 : (mid < m ∧ s0 = mid + m - b ∧ r0 = mid) ∨ (¬ mid < m ∧ s0 = a ∧ r0 = m)) (hs : s0 ≤ s) (hr : s ≤ r0)
    (hlo : ∀ c, s0 ≤ c → c < s → kat l c ≤ kat l (mid + m - 1 - c)) (hhi : ∀ c, s ≤ c → c < r0 → kat l (mid + m - 1 - c) < kat l c) : Cut l a m b s := by
  subst hmid
  refine ⟨by omega, by omega, by omega, by omega, fun h1 h2 => ?_, fun h1 h2 => ?_⟩
  · have := hlo (s - 1) (by omega) (by omega)
    rw [show (a + b) / 2 + m - 1 - (s - 1) = (a + b) / 2 + m - s by omega] at this
    exact this
  · have := hhi s (Nat.le_refl _) (by omega)
    rw [show (a + b) / 2 + m - 1 - s = (a + b) / 2 + m - s - 1 by omega] at this
    omega

/-- in the midst of the search of a merge -/
def M5 (l : List E) (p s0 r0 g : Nat) (w : World) (sv rv : Value) (wr : World) : Prop := ∃ (s r : Nat), sv = .int .i64 (s : Nat) ∧ rv = .int .i64 (r : Nat) ∧ s0 ≤ s ∧ s ≤ r ∧ r ≤ r0 ∧ (∀ c, s0 ≤ c → c < s → kat l c ≤ kat l (p - c)) ∧ (∀ c, r ≤ c → c < r0 → kat l (p - c) < kat l c) ∧ PendsAt wr g 0 l ∧ Only (fun k => k = g) w wr

/-- what a merge promises of all ranges up to d long -/
def MergeTo (d : Nat) : Prop := ∀ (g cap : Nat) (l : List E) (a m b n : Nat) (A M B : Int) (w : World), n = l.length → A = (a : Nat) → M = (m : Nat) → B = (b : Nat) → PendsAt w g 0 l → a < m → m < b → b ≤ l.length → l.length ≤ 10000 → Sorted l a m → Sorted l m b → b - a ≤ d →
    Calls Try.prog 85 #[.slice (some ⟨g, 0, none⟩) n cap, .int .i64 A, .int .i64 M, .int .i64 B, .func (.func 63) #[] #[]] w fun e w' => e = .returned (.tuple #[]) ∧ ∃ l', Step l l' a b ∧ Sorted l' a b ∧ PendsAt w' g 0 l' ∧ Only (fun k => k = g) w w'

set_option maxRecDepth 100000 in
set_option maxHeartbeats 4000000 in
theorem mergeBoth_any (d : Nat) (hd : MergeTo d) (g cap : Nat) (l : List E) (a m b : Nat) (w : World) (h : PendsAt w g 0 l) (ham : a + 1 < m) (hmb : m + 1 < b) (hb : b ≤ l.length) (hl : l.length ≤ 10000) (hs1 : Sorted l a m) (hs2 : Sorted l m b) (hdd : b - a ≤ d + 1) :
    Calls Try.prog 85 #[.slice (some ⟨g, 0, none⟩) l.length cap, .int .i64 (a : Nat), .int .i64 (m : Nat), .int .i64 (b : Nat), .func (.func 63) #[] #[]] w fun e w' => e = .returned (.tuple #[]) ∧ ∃ l', Step l l' a b ∧ Sorted l' a b ∧ PendsAt w' g 0 l' ∧ Only (fun k => k = g) w w' := by
  have HD : Hid (MergeTo d) := hd
  have HP : Hid (PendsAt w g 0 l) := h
  have HS1 : Hid (Sorted l a m) := hs1
  have HS2 : Hid (Sorted l m b) := hs2
  have hb28 : (((m : Int) - (a : Int)) == 1) = false := by rw [beq_eq_false_iff_ne]; omega
  have hb80 : (((b : Int) - (m : Int)) == 1) = false := by rw [beq_eq_false_iff_ne]; omega
  obtain ⟨mid, hmd⟩ : ∃ mid, mid = (a + b) / 2 := ⟨_, rfl⟩
  have hmid : ((a : Int) + (b : Int)) / 2 = (mid : Int) := by omega
  have HMD : Hid (mid = (a + b) / 2) := hmd
  obtain ⟨p, hp⟩ : ∃ p, p = mid + m - 1 := ⟨_, rfl⟩
  have hpi : (mid : Int) + (m : Int) - 1 = (p : Int) := by omega
  have HPE : Hid (p = mid + m - 1) := hp
  have mb1 : a ≤ mid := by omega
  have mb2 : mid < b := by omega
  have HB2 : Hid (2 * mid ≤ a + b ∧ a + b ≤ 2 * mid + 1) := by show _ ∧ _; omega
  clear h hs1 hs2 hd hmd hp
  go_enter Try.func85, Try.ntmps85
  go_upto_if 140 with fail
  go_cut [20, 21] (fun s20 s21 wx => w = wx ∧ ∃ s0 r0 : Nat, s20 = .int .i64 (s0 : Nat) ∧ s21 = .int .i64 (r0 : Nat) ∧ ((mid < m ∧ s0 = mid + m - b ∧ r0 = mid) ∨ (¬ mid < m ∧ s0 = a ∧ r0 = m)))
  case first =>
    by_cases hmm : mid < m
    · have hsi : (mid : Int) + (m : Int) - (b : Int) = ((mid + m - b : Nat) : Int) := by have := HB2.out; omega
      go_wp2
      go_meet
      exact ⟨rfl, mid + m - b, mid, rfl, rfl, .inl ⟨hmm, rfl, rfl⟩⟩
    · go_wp2
      go_meet
      exact ⟨rfl, a, m, rfl, rfl, .inr ⟨hmm, rfl, rfl⟩⟩
  case rest =>
  obtain ⟨rfl, s0, r0, rfl, rfl, hq0⟩ := hcut
  have HQ : Hid ((mid < m ∧ s0 = mid + m - b ∧ r0 = mid) ∨ (¬ mid < m ∧ s0 = a ∧ r0 = m)) := hq0
  have q1 : a ≤ s0 := by have := HB2.out; omega
  have q2 : s0 ≤ r0 := by have := HB2.out; omega
  have q3 : r0 ≤ m := by omega
  have q4 : p - s0 < b := by have := HB2.out; have := HPE.out; omega
  have q5 : m + r0 ≤ p + 1 := by have := HPE.out; omega
  clear hq0
  go_wp2
  go_loopw [20, 21, 23] (fun sv rv _ wr => M5 l p s0 r0 g w sv rv wr) (fun sv rv _ _ => (intOf rv).toNat - (intOf sv).toNat)
  case atStart => unfold M5; exact ⟨s0, r0, rfl, rfl, by omega, q2, by omega, fun c h1 h2 => by omega, fun c h1 h2 => by omega, HP.out, Only.refl _ _⟩
  case round =>
    unfold M5 at hrel
    obtain ⟨s, r, rfl, rfl, g1, g2, g3, hlo, hhi, hpd, hon⟩ := hrel
    have HLO : Hid (∀ c, s0 ≤ c → c < s → kat l c ≤ kat l (p - c)) := hlo
    have HHI : Hid (∀ c, r ≤ c → c < r0 → kat l (p - c) < kat l c) := hhi
    have HPD : Hid (PendsAt wr g 0 l) := hpd
    have HON : Hid (Only (fun k => k = g) w wr) := hon
    clear HP hlo hhi hpd hon
    by_cases hlt : s < r
    · obtain ⟨c, hc⟩ : ∃ c, c = (s + r) / 2 := ⟨_, rfl⟩
      have hh1 : s ≤ c := by omega
      have hh2 : c < r := by omega
      have hcm : ((s : Int) + (r : Int)) / 2 = (c : Int) := by omega
      obtain ⟨q, hq⟩ : ∃ q, q = p - c := ⟨_, rfl⟩
      have hqi : (p : Int) - (c : Int) = (q : Int) := by omega
      have hqb : q < b := by omega
      have hqm : m ≤ q := by omega
      have HQE : Hid (q = p - c) := hq
      obtain ⟨c1, c2, _, _⟩ := HPD.out q (by omega)
      obtain ⟨c3, c4, _, _⟩ := HPD.out c (by omega)
      rw [Nat.zero_add] at c1 c2 c3 c4
      have HK : Hid (kat l q < kat l c ↔ l[q].1 < l[c].1) := by show _ ↔ _; rw [kat_at, kat_at]
      have p0 : (0 : Int) ≤ (q : Int) := by omega
      have p1 : (q : Int) < (l.length : Int) := by omega
      have p2 : (0 : Int) ≤ (c : Int) := by omega
      have p3 : (c : Int) < (l.length : Int) := by omega
      have p7 : IntKind.i64.wrap (q : Int) = (q : Int) := IntWalk.i64_in _ ⟨by omega, by omega⟩
      have hgl := World.block_lt_of_cell? wr _ c1
      simp only at hgl
      generalize l[q].1 = x1 at *
      generalize l[q].2 = t1 at *
      generalize l[c].1 = x2 at *
      generalize l[c].2 = t2 at *
      obtain ⟨bo, hbo⟩ : ∃ r, r = decide (x1 < x2) := ⟨_, rfl⟩
      have hcz : decide (cmpZ x1 x2 < 0) = bo := by rw [cmpZ_lt, hbo]
      have HBO : Hid (bo = decide (x1 < x2)) := hbo
      clear hc hq hbo
      go_wp2_with fail
      go_region_held3 (fun w' => w'.cell? ⟨g, q * 2, none⟩ = some (.int .i64 x1) ∧ w'.cell? ⟨g, q * 2 + 1, none⟩ = some (.string t1) ∧ w'.cell? ⟨g, c * 2, none⟩ = some (.int .i64 x2) ∧ w'.cell? ⟨g, c * 2 + 1, none⟩ = some (.string t2))
        (first
          | go_keep
          | (go_split_ands; refine ⟨?_, ?_, ?_, ?_⟩ <;> (rw [hb1.cell (by simpa using hgl)]; first | exact c1 | exact c2 | exact c3 | exact c4)))
        ((go_at_call 63; refine (order_any _ _ _ _ _).mono ?_; rintro e w1 ⟨rfl, hb1⟩))
      have HP1 : Hid (PendsAt w1 g 0 l) := PendsAt.below (at_drew HPD.out) hb1
      have HO1 : Hid (Only (fun k => k = g) w w1) := (only_drew HON.out).trans (Only.of_below _ hb1)
      clear hb1 c1 c2 c3 c4 hgl
      cases bo
      · have hlx : ¬ x1 < x2 := fun z => by have := HBO.out; rw [decide_eq_true z] at this; cases this
        have HL2 : Hid (∀ x, s0 ≤ x → x < c + 1 → kat l x ≤ kat l (p - x)) := fun x z1 z2 => by
          have h9 := HS1.out x c (by omega) (by omega) (by omega)
          have h8 := HS2.out q (p - x) (by omega) (by have := HQE.out; omega) (by omega)
          have hnk : ¬ kat l q < kat l c := fun z => hlx (HK.out.mp z)
          omega
        clear HK hlx HBO hcz
        go_wp2
        go_roundw
        case rel => unfold M5; exact ⟨c + 1, r, by go_num, rfl, by omega, by omega, by omega, HL2.out, HHI.out, HP1.out, HO1.out⟩
        case measure => simp [intOf]; omega
      · have hlx : x1 < x2 := of_decide_eq_true HBO.out.symm
        have HL2 : Hid (∀ x, c ≤ x → x < r0 → kat l (p - x) < kat l x) := fun x z1 z2 => by
          have h9 := HS1.out c x (by omega) z1 (by omega)
          have h8 := HS2.out (p - x) q (by omega) (by have := HQE.out; omega) (by omega)
          have hk := HK.out.mpr hlx
          omega
        clear HK hlx HBO hcz
        go_wp2
        go_roundw
        case rel => unfold M5; exact ⟨s, c, rfl, rfl, by omega, by omega, by omega, HLO.out, HL2.out, HP1.out, HO1.out⟩
        case measure => simp [intOf]; omega
    · obtain rfl : s = r := by omega
      have HCU : Hid (Cut l a m b s) := cut_of HMD.out (by omega) (by omega) HQ.out g1 g3 (fun c z1 z2 => by have := HLO.out c z1 z2; have := HPE.out; subst this; assumption) (fun c z1 z2 => by have := HHI.out c z1 z2; have := HPE.out; subst this; assumption)
      have hsm : s ≤ m := HCU.out.hi
      have hsa : a ≤ s := HCU.out.lo
      obtain ⟨fin, hfin⟩ : ∃ fin, fin = mid + m - s := ⟨_, rfl⟩
      have hfi : (mid : Int) + (m : Int) - (s : Int) = (fin : Int) := by omega
      have HFN : Hid (fin = mid + m - s) := hfin
      have hf1 : m ≤ fin := by have := HCU.out.lo2; rw [← HMD.out, ← HFN.out] at this; exact this
      have hf2 : fin ≤ b := by have := HCU.out.hi2; rw [← HMD.out, ← HFN.out] at this; exact this
      have HPT : Hid (∀ l' : List E, (∀ x, l'[x]? = RotF (fun x => l[x]?) s m fin x) → Sorted l' a s ∧ Sorted l' s mid ∧ Sorted l' mid fin ∧ Sorted l' fin b ∧ (∀ x y, a ≤ x → x < mid → mid ≤ y → y < b → kat l' x ≤ kat l' y) ∧ s ≤ mid ∧ mid ≤ fin) := fun l' hr => by
        have hc := cut_parts (l' := l') (by omega) (by omega) HS1.out HS2.out HCU.out (by rw [← HMD.out, ← HFN.out]; exact hr)
        rw [← HMD.out, ← HFN.out] at hc; exact hc
      clear hfin HLO HHI HQ q1 q2 q3 q4 q5 g1 g2 g3 hlt HPE hpi
      by_cases n1 : s < m
      · by_cases n2 : m < fin
        · as_aux_lemma =>
            go_wp2_with fail
            refine (rotate_any g cap l s m fin _ _ HPD.out n1 n2 (by omega) hl).mono ?_
            rintro e w1 ⟨rfl, l1, hr1, hf1', hd1, ho1⟩
            have HR1 : Hid (l1.Perm l) := hr1
            have HF1 : Hid (∀ x, l1[x]? = RotF (fun x => l[x]?) s m fin x) := hf1'
            have HD1 : Hid (PendsAt w1 g 0 l1) := hd1
            have HO1 : Hid (Only (fun k => k = g) w w1) := HON.out.trans ho1
            clear hr1 hf1' hd1 ho1
            obtain ⟨t1, t2, t3, t4, t5, t6, t7⟩ := HPT.out l1 HF1.out
            have T1 : Hid (Sorted l1 a s) := t1
            have T2 : Hid (Sorted l1 s mid) := t2
            have T3 : Hid (Sorted l1 mid fin) := t3
            have T4 : Hid (Sorted l1 fin b) := t4
            have T5 : Hid (∀ x y, a ≤ x → x < mid → mid ≤ y → y < b → kat l1 x ≤ kat l1 y) := t5
            have HST1 : Hid (Step l l1 a b) := (rot_step HR1.out HF1.out hsm hf1).widen hsa hf2
            have hln1 : l1.length = l.length := HST1.out.len
            have HLN1 : Hid (l.length = l1.length) := hln1.symm
            clear t1 t2 t3 t4 t5 hln1 HPT HF1 HR1
            by_cases k1 : a < s
            · by_cases k2 : s < mid
              · go_wp2_with fail
                have hz := HLN1.out
                refine (HD.out g cap l1 a s mid _ _ _ _ _ HLN1.out rfl rfl rfl HD1.out k1 k2 (by omega) (by omega) T1.out T2.out (by omega)).mono ?_
                rintro e w2 ⟨rfl, l2, hst2, hso2, hd2, ho2⟩
                have HK2 : Hid (Step l1 l2 a mid) := hst2
                have HSO2 : Hid (Sorted l2 a mid) := hso2
                have HD2 : Hid (PendsAt w2 g 0 l2) := hd2
                have HO2 : Hid (Only (fun k => k = g) w w2) := HO1.out.trans ho2
                have HLN2 : Hid (l.length = l2.length) := by show _ = _; rw [hst2.len]; exact HLN1.out
                clear hst2 hso2 hd2 ho2 hz
                by_cases k3 : mid < fin
                · by_cases k4 : fin < b
                  · go_wp2_with fail
                    have hz := HLN2.out
                    refine (HD.out g cap l2 mid fin b _ _ _ _ _ HLN2.out rfl rfl rfl HD2.out k3 k4 (by omega) (by omega) (Sorted.far T3.out HK2.out (.inr (Nat.le_refl _))) (Sorted.far T4.out HK2.out (.inr t7)) (by omega)).mono ?_
                    rintro e w3 ⟨rfl, l3, hst3, hso3, hd3, ho3⟩
                    have HZ1 : Hid (Step l l3 a b) := (HST1.out.trans (HK2.out.widen (Nat.le_refl _) (by omega))).trans (hst3.widen (by omega) (Nat.le_refl _))
                    have HZ2 : Hid (Sorted l3 a b) := halves_join T5.out HK2.out hst3 HSO2.out hso3
                    have HZ3 : Hid (PendsAt w3 g 0 l3) := hd3
                    have HZ4 : Hid (Only (fun k => k = g) w w3) := HO2.out.trans ho3
                    clear hst3 hso3 hd3 ho3 hz
                    go_wp2
                    exact bodyPost_end (v := .tuple #[]) (by simp [results, Try.results85]) rfl ⟨rfl, l3, HZ1.out, HZ2.out, HZ3.out, HZ4.out⟩
                  · have HZ1 : Hid (Step l l2 a b) := HST1.out.trans (HK2.out.widen (Nat.le_refl _) (by omega))
                    have HZ2 : Hid (Sorted l2 a b) := halves_join T5.out HK2.out (Step.refl _ _ _) HSO2.out (by have e : fin = b := (by omega); have z := Sorted.far T3.out HK2.out (.inr (Nat.le_refl _)); rw [e] at z; exact z)
                    go_wp2
                    exact bodyPost_end (v := .tuple #[]) (by simp [results, Try.results85]) rfl ⟨rfl, l2, HZ1.out, HZ2.out, HD2.out, HO2.out⟩
                · have HZ1 : Hid (Step l l2 a b) := HST1.out.trans (HK2.out.widen (Nat.le_refl _) (by omega))
                  have HZ2 : Hid (Sorted l2 a b) := halves_join T5.out HK2.out (Step.refl _ _ _) HSO2.out (by have e : fin = mid := (by omega); have z := Sorted.far T4.out HK2.out (.inr t7); rw [e] at z; exact z)
                  go_wp2
                  exact bodyPost_end (v := .tuple #[]) (by simp [results, Try.results85]) rfl ⟨rfl, l2, HZ1.out, HZ2.out, HD2.out, HO2.out⟩
              · have HK2 : Hid (Step l1 l1 a mid) := Step.refl _ _ _
                have HSO2 : Hid (Sorted l1 a mid) := by have e : s = mid := (by omega); have z := T1.out; rw [e] at z; exact z
                have HD2 := HD1
                have HO2 := HO1
                have HLN2 := HLN1
                by_cases k3 : mid < fin
                · by_cases k4 : fin < b
                  · go_wp2_with fail
                    have hz := HLN2.out
                    refine (HD.out g cap l1 mid fin b _ _ _ _ _ HLN2.out rfl rfl rfl HD2.out k3 k4 (by omega) (by omega) (Sorted.far T3.out HK2.out (.inr (Nat.le_refl _))) (Sorted.far T4.out HK2.out (.inr t7)) (by omega)).mono ?_
                    rintro e w3 ⟨rfl, l3, hst3, hso3, hd3, ho3⟩
                    have HZ1 : Hid (Step l l3 a b) := (HST1.out.trans (HK2.out.widen (Nat.le_refl _) (by omega))).trans (hst3.widen (by omega) (Nat.le_refl _))
                    have HZ2 : Hid (Sorted l3 a b) := halves_join T5.out HK2.out hst3 HSO2.out hso3
                    have HZ3 : Hid (PendsAt w3 g 0 l3) := hd3
                    have HZ4 : Hid (Only (fun k => k = g) w w3) := HO2.out.trans ho3
                    clear hst3 hso3 hd3 ho3 hz
                    go_wp2
                    exact bodyPost_end (v := .tuple #[]) (by simp [results, Try.results85]) rfl ⟨rfl, l3, HZ1.out, HZ2.out, HZ3.out, HZ4.out⟩
                  · have HZ1 : Hid (Step l l1 a b) := HST1.out.trans (HK2.out.widen (Nat.le_refl _) (by omega))
                    have HZ2 : Hid (Sorted l1 a b) := halves_join T5.out HK2.out (Step.refl _ _ _) HSO2.out (by have e : fin = b := (by omega); have z := Sorted.far T3.out HK2.out (.inr (Nat.le_refl _)); rw [e] at z; exact z)
                    go_wp2
                    exact bodyPost_end (v := .tuple #[]) (by simp [results, Try.results85]) rfl ⟨rfl, l1, HZ1.out, HZ2.out, HD2.out, HO2.out⟩
                · have HZ1 : Hid (Step l l1 a b) := HST1.out.trans (HK2.out.widen (Nat.le_refl _) (by omega))
                  have HZ2 : Hid (Sorted l1 a b) := halves_join T5.out HK2.out (Step.refl _ _ _) HSO2.out (by have e : fin = mid := (by omega); have z := Sorted.far T4.out HK2.out (.inr t7); rw [e] at z; exact z)
                  go_wp2
                  exact bodyPost_end (v := .tuple #[]) (by simp [results, Try.results85]) rfl ⟨rfl, l1, HZ1.out, HZ2.out, HD2.out, HO2.out⟩
            · have HK2 : Hid (Step l1 l1 a mid) := Step.refl _ _ _
              have HSO2 : Hid (Sorted l1 a mid) := by have e : s = a := (by omega); have z := T2.out; rw [e] at z; exact z
              have HD2 := HD1
              have HO2 := HO1
              have HLN2 := HLN1
              by_cases k3 : mid < fin
              · by_cases k4 : fin < b
                · go_wp2_with fail
                  have hz := HLN2.out
                  refine (HD.out g cap l1 mid fin b _ _ _ _ _ HLN2.out rfl rfl rfl HD2.out k3 k4 (by omega) (by omega) (Sorted.far T3.out HK2.out (.inr (Nat.le_refl _))) (Sorted.far T4.out HK2.out (.inr t7)) (by omega)).mono ?_
                  rintro e w3 ⟨rfl, l3, hst3, hso3, hd3, ho3⟩
                  have HZ1 : Hid (Step l l3 a b) := (HST1.out.trans (HK2.out.widen (Nat.le_refl _) (by omega))).trans (hst3.widen (by omega) (Nat.le_refl _))
                  have HZ2 : Hid (Sorted l3 a b) := halves_join T5.out HK2.out hst3 HSO2.out hso3
                  have HZ3 : Hid (PendsAt w3 g 0 l3) := hd3
                  have HZ4 : Hid (Only (fun k => k = g) w w3) := HO2.out.trans ho3
                  clear hst3 hso3 hd3 ho3 hz
                  go_wp2
                  exact bodyPost_end (v := .tuple #[]) (by simp [results, Try.results85]) rfl ⟨rfl, l3, HZ1.out, HZ2.out, HZ3.out, HZ4.out⟩
                · have HZ1 : Hid (Step l l1 a b) := HST1.out.trans (HK2.out.widen (Nat.le_refl _) (by omega))
                  have HZ2 : Hid (Sorted l1 a b) := halves_join T5.out HK2.out (Step.refl _ _ _) HSO2.out (by have e : fin = b := (by omega); have z := Sorted.far T3.out HK2.out (.inr (Nat.le_refl _)); rw [e] at z; exact z)
                  go_wp2
                  exact bodyPost_end (v := .tuple #[]) (by simp [results, Try.results85]) rfl ⟨rfl, l1, HZ1.out, HZ2.out, HD2.out, HO2.out⟩
              · have HZ1 : Hid (Step l l1 a b) := HST1.out.trans (HK2.out.widen (Nat.le_refl _) (by omega))
                have HZ2 : Hid (Sorted l1 a b) := halves_join T5.out HK2.out (Step.refl _ _ _) HSO2.out (by have e : fin = mid := (by omega); have z := Sorted.far T4.out HK2.out (.inr t7); rw [e] at z; exact z)
                go_wp2
                exact bodyPost_end (v := .tuple #[]) (by simp [results, Try.results85]) rfl ⟨rfl, l1, HZ1.out, HZ2.out, HD2.out, HO2.out⟩
        · as_aux_lemma =>
            obtain ⟨l1, hl1⟩ : ∃ l1, l1 = l := ⟨_, rfl⟩
            have HR1 : Hid (l1.Perm l) := by subst hl1; exact List.Perm.refl _
            have HF1 : Hid (∀ x, l1[x]? = RotF (fun x => l[x]?) s m fin x) := fun x => by (rw [hl1]; have e : m = fin := (by omega); rw [← e, rot_triv2])
            have HD1 : Hid (PendsAt wr g 0 l1) := by rw [hl1]; exact HPD.out
            have HO1 : Hid (Only (fun k => k = g) w wr) := HON.out
            clear hl1
            obtain ⟨t1, t2, t3, t4, t5, t6, t7⟩ := HPT.out l1 HF1.out
            have T1 : Hid (Sorted l1 a s) := t1
            have T2 : Hid (Sorted l1 s mid) := t2
            have T3 : Hid (Sorted l1 mid fin) := t3
            have T4 : Hid (Sorted l1 fin b) := t4
            have T5 : Hid (∀ x y, a ≤ x → x < mid → mid ≤ y → y < b → kat l1 x ≤ kat l1 y) := t5
            have HST1 : Hid (Step l l1 a b) := (rot_step HR1.out HF1.out hsm hf1).widen hsa hf2
            have hln1 : l1.length = l.length := HST1.out.len
            have HLN1 : Hid (l.length = l1.length) := hln1.symm
            clear t1 t2 t3 t4 t5 hln1 HPT HF1 HR1
            by_cases k1 : a < s
            · by_cases k2 : s < mid
              · go_wp2_with fail
                have hz := HLN1.out
                refine (HD.out g cap l1 a s mid _ _ _ _ _ HLN1.out rfl rfl rfl HD1.out k1 k2 (by omega) (by omega) T1.out T2.out (by omega)).mono ?_
                rintro e w2 ⟨rfl, l2, hst2, hso2, hd2, ho2⟩
                have HK2 : Hid (Step l1 l2 a mid) := hst2
                have HSO2 : Hid (Sorted l2 a mid) := hso2
                have HD2 : Hid (PendsAt w2 g 0 l2) := hd2
                have HO2 : Hid (Only (fun k => k = g) w w2) := HO1.out.trans ho2
                have HLN2 : Hid (l.length = l2.length) := by show _ = _; rw [hst2.len]; exact HLN1.out
                clear hst2 hso2 hd2 ho2 hz
                by_cases k3 : mid < fin
                · by_cases k4 : fin < b
                  · go_wp2_with fail
                    have hz := HLN2.out
                    refine (HD.out g cap l2 mid fin b _ _ _ _ _ HLN2.out rfl rfl rfl HD2.out k3 k4 (by omega) (by omega) (Sorted.far T3.out HK2.out (.inr (Nat.le_refl _))) (Sorted.far T4.out HK2.out (.inr t7)) (by omega)).mono ?_
                    rintro e w3 ⟨rfl, l3, hst3, hso3, hd3, ho3⟩
                    have HZ1 : Hid (Step l l3 a b) := (HST1.out.trans (HK2.out.widen (Nat.le_refl _) (by omega))).trans (hst3.widen (by omega) (Nat.le_refl _))
                    have HZ2 : Hid (Sorted l3 a b) := halves_join T5.out HK2.out hst3 HSO2.out hso3
                    have HZ3 : Hid (PendsAt w3 g 0 l3) := hd3
                    have HZ4 : Hid (Only (fun k => k = g) w w3) := HO2.out.trans ho3
                    clear hst3 hso3 hd3 ho3 hz
                    go_wp2
                    exact bodyPost_end (v := .tuple #[]) (by simp [results, Try.results85]) rfl ⟨rfl, l3, HZ1.out, HZ2.out, HZ3.out, HZ4.out⟩
                  · have HZ1 : Hid (Step l l2 a b) := HST1.out.trans (HK2.out.widen (Nat.le_refl _) (by omega))
                    have HZ2 : Hid (Sorted l2 a b) := halves_join T5.out HK2.out (Step.refl _ _ _) HSO2.out (by have e : fin = b := (by omega); have z := Sorted.far T3.out HK2.out (.inr (Nat.le_refl _)); rw [e] at z; exact z)
                    go_wp2
                    exact bodyPost_end (v := .tuple #[]) (by simp [results, Try.results85]) rfl ⟨rfl, l2, HZ1.out, HZ2.out, HD2.out, HO2.out⟩
                · have HZ1 : Hid (Step l l2 a b) := HST1.out.trans (HK2.out.widen (Nat.le_refl _) (by omega))
                  have HZ2 : Hid (Sorted l2 a b) := halves_join T5.out HK2.out (Step.refl _ _ _) HSO2.out (by have e : fin = mid := (by omega); have z := Sorted.far T4.out HK2.out (.inr t7); rw [e] at z; exact z)
                  go_wp2
                  exact bodyPost_end (v := .tuple #[]) (by simp [results, Try.results85]) rfl ⟨rfl, l2, HZ1.out, HZ2.out, HD2.out, HO2.out⟩
              · have HK2 : Hid (Step l1 l1 a mid) := Step.refl _ _ _
                have HSO2 : Hid (Sorted l1 a mid) := by have e : s = mid := (by omega); have z := T1.out; rw [e] at z; exact z
                have HD2 := HD1
                have HO2 := HO1
                have HLN2 := HLN1
                by_cases k3 : mid < fin
                · by_cases k4 : fin < b
                  · go_wp2_with fail
                    have hz := HLN2.out
                    refine (HD.out g cap l1 mid fin b _ _ _ _ _ HLN2.out rfl rfl rfl HD2.out k3 k4 (by omega) (by omega) (Sorted.far T3.out HK2.out (.inr (Nat.le_refl _))) (Sorted.far T4.out HK2.out (.inr t7)) (by omega)).mono ?_
                    rintro e w3 ⟨rfl, l3, hst3, hso3, hd3, ho3⟩
                    have HZ1 : Hid (Step l l3 a b) := (HST1.out.trans (HK2.out.widen (Nat.le_refl _) (by omega))).trans (hst3.widen (by omega) (Nat.le_refl _))
                    have HZ2 : Hid (Sorted l3 a b) := halves_join T5.out HK2.out hst3 HSO2.out hso3
                    have HZ3 : Hid (PendsAt w3 g 0 l3) := hd3
                    have HZ4 : Hid (Only (fun k => k = g) w w3) := HO2.out.trans ho3
                    clear hst3 hso3 hd3 ho3 hz
                    go_wp2
                    exact bodyPost_end (v := .tuple #[]) (by simp [results, Try.results85]) rfl ⟨rfl, l3, HZ1.out, HZ2.out, HZ3.out, HZ4.out⟩
                  · have HZ1 : Hid (Step l l1 a b) := HST1.out.trans (HK2.out.widen (Nat.le_refl _) (by omega))
                    have HZ2 : Hid (Sorted l1 a b) := halves_join T5.out HK2.out (Step.refl _ _ _) HSO2.out (by have e : fin = b := (by omega); have z := Sorted.far T3.out HK2.out (.inr (Nat.le_refl _)); rw [e] at z; exact z)
                    go_wp2
                    exact bodyPost_end (v := .tuple #[]) (by simp [results, Try.results85]) rfl ⟨rfl, l1, HZ1.out, HZ2.out, HD2.out, HO2.out⟩
                · have HZ1 : Hid (Step l l1 a b) := HST1.out.trans (HK2.out.widen (Nat.le_refl _) (by omega))
                  have HZ2 : Hid (Sorted l1 a b) := halves_join T5.out HK2.out (Step.refl _ _ _) HSO2.out (by have e : fin = mid := (by omega); have z := Sorted.far T4.out HK2.out (.inr t7); rw [e] at z; exact z)
                  go_wp2
                  exact bodyPost_end (v := .tuple #[]) (by simp [results, Try.results85]) rfl ⟨rfl, l1, HZ1.out, HZ2.out, HD2.out, HO2.out⟩
            · have HK2 : Hid (Step l1 l1 a mid) := Step.refl _ _ _
              have HSO2 : Hid (Sorted l1 a mid) := by have e : s = a := (by omega); have z := T2.out; rw [e] at z; exact z
              have HD2 := HD1
              have HO2 := HO1
              have HLN2 := HLN1
              by_cases k3 : mid < fin
              · by_cases k4 : fin < b
                · go_wp2_with fail
                  have hz := HLN2.out
                  refine (HD.out g cap l1 mid fin b _ _ _ _ _ HLN2.out rfl rfl rfl HD2.out k3 k4 (by omega) (by omega) (Sorted.far T3.out HK2.out (.inr (Nat.le_refl _))) (Sorted.far T4.out HK2.out (.inr t7)) (by omega)).mono ?_
                  rintro e w3 ⟨rfl, l3, hst3, hso3, hd3, ho3⟩
                  have HZ1 : Hid (Step l l3 a b) := (HST1.out.trans (HK2.out.widen (Nat.le_refl _) (by omega))).trans (hst3.widen (by omega) (Nat.le_refl _))
                  have HZ2 : Hid (Sorted l3 a b) := halves_join T5.out HK2.out hst3 HSO2.out hso3
                  have HZ3 : Hid (PendsAt w3 g 0 l3) := hd3
                  have HZ4 : Hid (Only (fun k => k = g) w w3) := HO2.out.trans ho3
                  clear hst3 hso3 hd3 ho3 hz
                  go_wp2
                  exact bodyPost_end (v := .tuple #[]) (by simp [results, Try.results85]) rfl ⟨rfl, l3, HZ1.out, HZ2.out, HZ3.out, HZ4.out⟩
                · have HZ1 : Hid (Step l l1 a b) := HST1.out.trans (HK2.out.widen (Nat.le_refl _) (by omega))
                  have HZ2 : Hid (Sorted l1 a b) := halves_join T5.out HK2.out (Step.refl _ _ _) HSO2.out (by have e : fin = b := (by omega); have z := Sorted.far T3.out HK2.out (.inr (Nat.le_refl _)); rw [e] at z; exact z)
                  go_wp2
                  exact bodyPost_end (v := .tuple #[]) (by simp [results, Try.results85]) rfl ⟨rfl, l1, HZ1.out, HZ2.out, HD2.out, HO2.out⟩
              · have HZ1 : Hid (Step l l1 a b) := HST1.out.trans (HK2.out.widen (Nat.le_refl _) (by omega))
                have HZ2 : Hid (Sorted l1 a b) := halves_join T5.out HK2.out (Step.refl _ _ _) HSO2.out (by have e : fin = mid := (by omega); have z := Sorted.far T4.out HK2.out (.inr t7); rw [e] at z; exact z)
                go_wp2
                exact bodyPost_end (v := .tuple #[]) (by simp [results, Try.results85]) rfl ⟨rfl, l1, HZ1.out, HZ2.out, HD2.out, HO2.out⟩
      · as_aux_lemma =>
          obtain ⟨l1, hl1⟩ : ∃ l1, l1 = l := ⟨_, rfl⟩
          have HR1 : Hid (l1.Perm l) := by subst hl1; exact List.Perm.refl _
          have HF1 : Hid (∀ x, l1[x]? = RotF (fun x => l[x]?) s m fin x) := fun x => by (rw [hl1]; have e : s = m := (by omega); rw [e, rot_triv1 _ _ _ hf1])
          have HD1 : Hid (PendsAt wr g 0 l1) := by rw [hl1]; exact HPD.out
          have HO1 : Hid (Only (fun k => k = g) w wr) := HON.out
          clear hl1
          obtain ⟨t1, t2, t3, t4, t5, t6, t7⟩ := HPT.out l1 HF1.out
          have T1 : Hid (Sorted l1 a s) := t1
          have T2 : Hid (Sorted l1 s mid) := t2
          have T3 : Hid (Sorted l1 mid fin) := t3
          have T4 : Hid (Sorted l1 fin b) := t4
          have T5 : Hid (∀ x y, a ≤ x → x < mid → mid ≤ y → y < b → kat l1 x ≤ kat l1 y) := t5
          have HST1 : Hid (Step l l1 a b) := (rot_step HR1.out HF1.out hsm hf1).widen hsa hf2
          have hln1 : l1.length = l.length := HST1.out.len
          have HLN1 : Hid (l.length = l1.length) := hln1.symm
          clear t1 t2 t3 t4 t5 hln1 HPT HF1 HR1
          by_cases k1 : a < s
          · by_cases k2 : s < mid
            · go_wp2_with fail
              have hz := HLN1.out
              refine (HD.out g cap l1 a s mid _ _ _ _ _ HLN1.out rfl rfl rfl HD1.out k1 k2 (by omega) (by omega) T1.out T2.out (by omega)).mono ?_
              rintro e w2 ⟨rfl, l2, hst2, hso2, hd2, ho2⟩
              have HK2 : Hid (Step l1 l2 a mid) := hst2
              have HSO2 : Hid (Sorted l2 a mid) := hso2
              have HD2 : Hid (PendsAt w2 g 0 l2) := hd2
              have HO2 : Hid (Only (fun k => k = g) w w2) := HO1.out.trans ho2
              have HLN2 : Hid (l.length = l2.length) := by show _ = _; rw [hst2.len]; exact HLN1.out
              clear hst2 hso2 hd2 ho2 hz
              by_cases k3 : mid < fin
              · by_cases k4 : fin < b
                · go_wp2_with fail
                  have hz := HLN2.out
                  refine (HD.out g cap l2 mid fin b _ _ _ _ _ HLN2.out rfl rfl rfl HD2.out k3 k4 (by omega) (by omega) (Sorted.far T3.out HK2.out (.inr (Nat.le_refl _))) (Sorted.far T4.out HK2.out (.inr t7)) (by omega)).mono ?_
                  rintro e w3 ⟨rfl, l3, hst3, hso3, hd3, ho3⟩
                  have HZ1 : Hid (Step l l3 a b) := (HST1.out.trans (HK2.out.widen (Nat.le_refl _) (by omega))).trans (hst3.widen (by omega) (Nat.le_refl _))
                  have HZ2 : Hid (Sorted l3 a b) := halves_join T5.out HK2.out hst3 HSO2.out hso3
                  have HZ3 : Hid (PendsAt w3 g 0 l3) := hd3
                  have HZ4 : Hid (Only (fun k => k = g) w w3) := HO2.out.trans ho3
                  clear hst3 hso3 hd3 ho3 hz
                  go_wp2
                  exact bodyPost_end (v := .tuple #[]) (by simp [results, Try.results85]) rfl ⟨rfl, l3, HZ1.out, HZ2.out, HZ3.out, HZ4.out⟩
                · have HZ1 : Hid (Step l l2 a b) := HST1.out.trans (HK2.out.widen (Nat.le_refl _) (by omega))
                  have HZ2 : Hid (Sorted l2 a b) := halves_join T5.out HK2.out (Step.refl _ _ _) HSO2.out (by have e : fin = b := (by omega); have z := Sorted.far T3.out HK2.out (.inr (Nat.le_refl _)); rw [e] at z; exact z)
                  go_wp2
                  exact bodyPost_end (v := .tuple #[]) (by simp [results, Try.results85]) rfl ⟨rfl, l2, HZ1.out, HZ2.out, HD2.out, HO2.out⟩
              · have HZ1 : Hid (Step l l2 a b) := HST1.out.trans (HK2.out.widen (Nat.le_refl _) (by omega))
                have HZ2 : Hid (Sorted l2 a b) := halves_join T5.out HK2.out (Step.refl _ _ _) HSO2.out (by have e : fin = mid := (by omega); have z := Sorted.far T4.out HK2.out (.inr t7); rw [e] at z; exact z)
                go_wp2
                exact bodyPost_end (v := .tuple #[]) (by simp [results, Try.results85]) rfl ⟨rfl, l2, HZ1.out, HZ2.out, HD2.out, HO2.out⟩
            · have HK2 : Hid (Step l1 l1 a mid) := Step.refl _ _ _
              have HSO2 : Hid (Sorted l1 a mid) := by have e : s = mid := (by omega); have z := T1.out; rw [e] at z; exact z
              have HD2 := HD1
              have HO2 := HO1
              have HLN2 := HLN1
              by_cases k3 : mid < fin
              · by_cases k4 : fin < b
                · go_wp2_with fail
                  have hz := HLN2.out
                  refine (HD.out g cap l1 mid fin b _ _ _ _ _ HLN2.out rfl rfl rfl HD2.out k3 k4 (by omega) (by omega) (Sorted.far T3.out HK2.out (.inr (Nat.le_refl _))) (Sorted.far T4.out HK2.out (.inr t7)) (by omega)).mono ?_
                  rintro e w3 ⟨rfl, l3, hst3, hso3, hd3, ho3⟩
                  have HZ1 : Hid (Step l l3 a b) := (HST1.out.trans (HK2.out.widen (Nat.le_refl _) (by omega))).trans (hst3.widen (by omega) (Nat.le_refl _))
                  have HZ2 : Hid (Sorted l3 a b) := halves_join T5.out HK2.out hst3 HSO2.out hso3
                  have HZ3 : Hid (PendsAt w3 g 0 l3) := hd3
                  have HZ4 : Hid (Only (fun k => k = g) w w3) := HO2.out.trans ho3
                  clear hst3 hso3 hd3 ho3 hz
                  go_wp2
                  exact bodyPost_end (v := .tuple #[]) (by simp [results, Try.results85]) rfl ⟨rfl, l3, HZ1.out, HZ2.out, HZ3.out, HZ4.out⟩
                · have HZ1 : Hid (Step l l1 a b) := HST1.out.trans (HK2.out.widen (Nat.le_refl _) (by omega))
                  have HZ2 : Hid (Sorted l1 a b) := halves_join T5.out HK2.out (Step.refl _ _ _) HSO2.out (by have e : fin = b := (by omega); have z := Sorted.far T3.out HK2.out (.inr (Nat.le_refl _)); rw [e] at z; exact z)
                  go_wp2
                  exact bodyPost_end (v := .tuple #[]) (by simp [results, Try.results85]) rfl ⟨rfl, l1, HZ1.out, HZ2.out, HD2.out, HO2.out⟩
              · have HZ1 : Hid (Step l l1 a b) := HST1.out.trans (HK2.out.widen (Nat.le_refl _) (by omega))
                have HZ2 : Hid (Sorted l1 a b) := halves_join T5.out HK2.out (Step.refl _ _ _) HSO2.out (by have e : fin = mid := (by omega); have z := Sorted.far T4.out HK2.out (.inr t7); rw [e] at z; exact z)
                go_wp2
                exact bodyPost_end (v := .tuple #[]) (by simp [results, Try.results85]) rfl ⟨rfl, l1, HZ1.out, HZ2.out, HD2.out, HO2.out⟩
          · have HK2 : Hid (Step l1 l1 a mid) := Step.refl _ _ _
            have HSO2 : Hid (Sorted l1 a mid) := by have e : s = a := (by omega); have z := T2.out; rw [e] at z; exact z
            have HD2 := HD1
            have HO2 := HO1
            have HLN2 := HLN1
            by_cases k3 : mid < fin
            · by_cases k4 : fin < b
              · go_wp2_with fail
                have hz := HLN2.out
                refine (HD.out g cap l1 mid fin b _ _ _ _ _ HLN2.out rfl rfl rfl HD2.out k3 k4 (by omega) (by omega) (Sorted.far T3.out HK2.out (.inr (Nat.le_refl _))) (Sorted.far T4.out HK2.out (.inr t7)) (by omega)).mono ?_
                rintro e w3 ⟨rfl, l3, hst3, hso3, hd3, ho3⟩
                have HZ1 : Hid (Step l l3 a b) := (HST1.out.trans (HK2.out.widen (Nat.le_refl _) (by omega))).trans (hst3.widen (by omega) (Nat.le_refl _))
                have HZ2 : Hid (Sorted l3 a b) := halves_join T5.out HK2.out hst3 HSO2.out hso3
                have HZ3 : Hid (PendsAt w3 g 0 l3) := hd3
                have HZ4 : Hid (Only (fun k => k = g) w w3) := HO2.out.trans ho3
                clear hst3 hso3 hd3 ho3 hz
                go_wp2
                exact bodyPost_end (v := .tuple #[]) (by simp [results, Try.results85]) rfl ⟨rfl, l3, HZ1.out, HZ2.out, HZ3.out, HZ4.out⟩
              · have HZ1 : Hid (Step l l1 a b) := HST1.out.trans (HK2.out.widen (Nat.le_refl _) (by omega))
                have HZ2 : Hid (Sorted l1 a b) := halves_join T5.out HK2.out (Step.refl _ _ _) HSO2.out (by have e : fin = b := (by omega); have z := Sorted.far T3.out HK2.out (.inr (Nat.le_refl _)); rw [e] at z; exact z)
                go_wp2
                exact bodyPost_end (v := .tuple #[]) (by simp [results, Try.results85]) rfl ⟨rfl, l1, HZ1.out, HZ2.out, HD2.out, HO2.out⟩
            · have HZ1 : Hid (Step l l1 a b) := HST1.out.trans (HK2.out.widen (Nat.le_refl _) (by omega))
              have HZ2 : Hid (Sorted l1 a b) := halves_join T5.out HK2.out (Step.refl _ _ _) HSO2.out (by have e : fin = mid := (by omega); have z := Sorted.far T4.out HK2.out (.inr t7); rw [e] at z; exact z)
              go_wp2
              exact bodyPost_end (v := .tuple #[]) (by simp [results, Try.results85]) rfl ⟨rfl, l1, HZ1.out, HZ2.out, HD2.out, HO2.out⟩

theorem mergeTo_all : ∀ d, MergeTo d
  | 0 => fun g cap l a m b n A M B w _ _ _ _ _ h1 h2 _ _ _ _ h3 => by omega
  | d + 1 => fun g cap l a m b n A M B w hn hA hM hB hp h1 h2 h3 h4 h5 h6 h7 => by
    subst hn hA hM hB
    by_cases e1 : m = a + 1
    · subst e1; exact mergeFirst_any g cap l a b w hp h2 h3 h4 h6
    · by_cases e2 : b = m + 1
      · subst e2; exact mergeLast_any g cap l a m w hp (by omega) h3 h4 h5
      · exact mergeBoth_any d (mergeTo_all d) g cap l a m b w hp (by omega) (by omega) h3 h4 h5 h6 h7
end Go.Proofs.Ytkanhjafchiikaa.Srt
