/- What the library's stable sort of shards answers. -/
import Derived.Test.YtkanhjafchiikaaSortMerge
import Derived.Test.YtkanhjafchiikaaTextsA
namespace Go.Proofs.Ytkanhjafchiikaa.Srt
open Go.RowKit Go.Proofs.Ytkanhjafchiikaa.Mem Go.Proofs.Ytkanhjafchiikaa.Harn Go.Proofs.Ytkanhjafchiikaa.Disk

/-- the first runs of twenty in order -/
def St1 (l : List E) (g : Nat) (w : World) (av bv : Value) (wr : World) : Prop := ∃ (a q : Nat) (lk : List E), av = .int .i64 (a : Nat) ∧ bv = .int .i64 ((a : Int) + 20) ∧ a = q * 20 ∧ a ≤ l.length ∧ Step l lk 0 l.length ∧ Runs lk 0 a 20 ∧ PendsAt wr g 0 lk ∧ Only (fun k => k = g) w wr
/-- runs of B in order -/
def St2 (l : List E) (g : Nat) (w : World) (bv : Value) (wr : World) : Prop := ∃ (B : Nat) (lk : List E), bv = .int .i64 (B : Nat) ∧ 20 ≤ B ∧ B ≤ 20000 ∧ Step l lk 0 l.length ∧ Runs lk 0 l.length B ∧ PendsAt wr g 0 lk ∧ Only (fun k => k = g) w wr
/-- runs of B being merged -/
def St3 (l : List E) (B g : Nat) (w : World) (av bv : Value) (wr : World) : Prop := ∃ (a q : Nat) (lk : List E), av = .int .i64 (a : Nat) ∧ bv = .int .i64 ((a : Int) + 2 * (B : Int)) ∧ a = q * (2 * B) ∧ a ≤ l.length ∧ Step l lk 0 l.length ∧ Runs lk 0 a (2 * B) ∧ Runs lk a l.length B ∧ PendsAt wr g 0 lk ∧ Only (fun k => k = g) w wr

theorem insertion_int (g cap : Nat) (l : List E) (a b n : Nat) (A B : Int) (w : World) (hn : n = l.length) (hA : A = (a : Nat)) (hB : B = (b : Nat)) (h : PendsAt w g 0 l) (hab : a ≤ b) (hb : b ≤ l.length) (hl : l.length ≤ 10000) :
    Calls Try.prog 84 #[.slice (some ⟨g, 0, none⟩) n cap, .int .i64 A, .int .i64 B, .func (.func 63) #[] #[]] w fun e w' => e = .returned (.tuple #[]) ∧ ∃ l', Step l l' a b ∧ Sorted l' a b ∧ PendsAt w' g 0 l' ∧ Only (fun k => k = g) w w' := by
  subst hn hA hB
  exact insertion_any g cap l a b w h hab hb hl

set_option maxRecDepth 100000 in
set_option maxHeartbeats 2000000 in
theorem stable_any (g cap : Nat) (l : List E) (w : World) (h : PendsAt w g 0 l) (hl : l.length ≤ 2000) :
    Calls Try.prog 76 #[.slice (some ⟨g, 0, none⟩) l.length cap, .int .i64 (l.length : Nat), .func (.func 63) #[] #[]] w fun e w' => e = .returned (.tuple #[]) ∧ ∃ l', l'.Perm l ∧ Sorted l' 0 l.length ∧ PendsAt w' g 0 l' ∧ Only (fun k => k = g) w w' := by
  have HP : Hid (PendsAt w g 0 l) := h
  have HMG : Hid (∀ d, MergeTo d) := mergeTo_all
  clear h
  go_enter Try.func76, Try.ntmps76
  go_wp2
  go_loopw [7, 8] (fun av bv wr => St1 l g w av bv wr) (fun av _ _ => 20000 - (intOf av).toNat)
  case atStart => unfold St1; exact ⟨0, 0, l, rfl, rfl, rfl, by omega, Step.refl _ _ _, runs_none (by omega), HP.out, Only.refl _ _⟩
  case round =>
    unfold St1 at hrel
    obtain ⟨a, q, lk, rfl, rfl, hq, ha, hst, hru, hpd, hon⟩ := hrel
    have HQ : Hid (a = q * 20) := hq
    have HST : Hid (Step l lk 0 l.length) := hst
    have HRU : Hid (Runs lk 0 a 20) := hru
    have HPD : Hid (PendsAt wr g 0 lk) := hpd
    have HON : Hid (Only (fun k => k = g) w wr) := hon
    have HLN : Hid (l.length = lk.length) := hst.len.symm
    clear HP hq hst hru hpd hon
    by_cases hlt : a + 20 ≤ l.length
    · have p1 : (a : Int) + 20 ≤ (l.length : Int) := by omega
      go_wp2_with fail
      have hz := HLN.out
      refine (insertion_int g cap lk a (a + 20) _ _ _ _ HLN.out rfl (by omega) HPD.out (by omega) (by omega) (by omega)).mono ?_
      rintro e w1 ⟨rfl, l', hs', hso', hd', ho'⟩
      have HS' : Hid (Step l l' 0 l.length) := HST.out.trans (hs'.widen (by omega) (by omega))
      have HR' : Hid (Runs l' 0 (a + 20) 20) := runs_snoc (runs_far HRU.out hs' (.inl (Nat.le_refl _))) HQ.out hso' (by omega) (Nat.le_refl _)
      have HQ' : Hid (a + 20 = (q + 1) * 20) := by have := HQ.out; show _ = _; omega
      have HD' : Hid (PendsAt w1 g 0 l') := hd'
      have HO' : Hid (Only (fun k => k = g) w w1) := HON.out.trans ho'
      clear hs' hso' hd' ho' hz
      go_wp2
      go_roundw
      case rel => unfold St1; exact ⟨a + 20, q + 1, l', by go_num, by congr 1, HQ'.out, hlt, HS'.out, HR'.out, HD'.out, HO'.out⟩
      case measure => simp [intOf]; omega
    · have p1 : ¬ (a : Int) + 20 ≤ (l.length : Int) := by omega
      go_wp2_with fail
      have hz := HLN.out
      refine (insertion_int g cap lk a l.length _ _ _ _ HLN.out rfl rfl HPD.out ha (by omega) (by omega)).mono ?_
      rintro e w1 ⟨rfl, l', hs', hso', hd', ho'⟩
      have HS' : Hid (Step l l' 0 l.length) := HST.out.trans (hs'.widen (by omega) (by omega))
      have HR' : Hid (Runs l' 0 l.length 20) := runs_snoc (runs_far HRU.out hs' (.inl (Nat.le_refl _))) HQ.out hso' ha (by omega)
      have HD' : Hid (PendsAt w1 g 0 l') := hd'
      have HO' : Hid (Only (fun k => k = g) w w1) := HON.out.trans ho'
      clear hs' hso' hd' ho' hz HST HRU HPD HON HLN HQ
      go_wp2
      go_loopw [6, 7, 8, 9] (fun bv _ _ _ wr => St2 l g w bv wr) (fun bv _ _ _ _ => 40000 - (intOf bv).toNat)
      case atStart => unfold St2; exact ⟨20, l', rfl, by omega, by omega, HS'.out, HR'.out, HD'.out, HO'.out⟩
      case round =>
        clear HS' HR' HD' HO'
        unfold St2 at hrel
        obtain ⟨B, lk, rfl, hB1, hB2, hst, hru, hpd, hon⟩ := hrel
        have HST : Hid (Step l lk 0 l.length) := hst
        have HRU : Hid (Runs lk 0 l.length B) := hru
        have HPD : Hid (PendsAt wr g 0 lk) := hpd
        have HON : Hid (Only (fun k => k = g) w wr) := hon
        clear hst hru hpd hon
        by_cases hlt : B < l.length
        · go_wp2
          go_loopw [7, 8] (fun av bv wr => St3 l B g w av bv wr) (fun av _ _ => 20000 - (intOf av).toNat)
          case atStart => unfold St3; exact ⟨0, 0, lk, rfl, by congr 1; omega, by omega, by omega, HST.out, runs_none (by omega), HRU.out, HPD.out, HON.out⟩
          case round =>
            clear HST HRU HPD HON
            unfold St3 at hrel
            obtain ⟨a, q, lk, rfl, rfl, hq, ha, hst, hru, hru2, hpd, hon⟩ := hrel
            have HQ : Hid (a = q * (2 * B)) := hq
            have HST : Hid (Step l lk 0 l.length) := hst
            have HRU : Hid (Runs lk 0 a (2 * B)) := hru
            have HRV : Hid (Runs lk a l.length B) := hru2
            have HPD : Hid (PendsAt wr g 0 lk) := hpd
            have HON : Hid (Only (fun k => k = g) w wr) := hon
            have HLN : Hid (l.length = lk.length) := hst.len.symm
            clear hq hst hru hru2 hpd hon
            by_cases hle : a + 2 * B ≤ l.length
            · have p1 : (a : Int) + 2 * (B : Int) ≤ (l.length : Int) := by omega
              have HH1 : Hid (Sorted lk a (a + B)) := by
                have := runs_head HRV.out (by omega)
                rwa [show min (a + B) l.length = a + B by omega] at this
              have HH2 : Hid (Sorted lk (a + B) (a + 2 * B)) := by
                have := runs_head (runs_tail HRV.out) (by omega)
                rwa [show min (a + B + B) l.length = a + 2 * B by omega] at this
              go_wp2_with fail
              have hz := HLN.out
              refine (HMG.out (2 * B) g cap lk a (a + B) (a + 2 * B) _ _ _ _ _ HLN.out rfl (by omega) (by omega) HPD.out (by omega) (by omega) (by omega) (by omega) HH1.out HH2.out (by omega)).mono ?_
              rintro e w1 ⟨rfl, l', hs', hso', hd', ho'⟩
              have HS' : Hid (Step l l' 0 l.length) := HST.out.trans (hs'.widen (by omega) (by omega))
              have HR' : Hid (Runs l' 0 (a + 2 * B) (2 * B)) := runs_snoc (runs_far HRU.out hs' (.inl (Nat.le_refl _))) HQ.out hso' (by omega) (Nat.le_refl _)
              have HR2' : Hid (Runs l' (a + 2 * B) l.length B) := by
                have := runs_far (runs_tail (runs_tail HRV.out)) hs' (.inr (by omega))
                rwa [show a + B + B = a + 2 * B by omega] at this
              have HQ' : Hid (a + 2 * B = (q + 1) * (2 * B)) := by have := HQ.out; show _ = _; rw [Nat.add_mul, Nat.one_mul, ← this]
              have HD' : Hid (PendsAt w1 g 0 l') := hd'
              have HO' : Hid (Only (fun k => k = g) w w1) := HON.out.trans ho'
              clear hs' hso' hd' ho' hz
              go_wp2
              go_roundw
              case rel => unfold St3; exact ⟨a + 2 * B, q + 1, l', by congr 1, by congr 1, HQ'.out, hle, HS'.out, HR'.out, HR2'.out, HD'.out, HO'.out⟩
              case measure => simp [intOf]; omega
            · have p1 : ¬ (a : Int) + 2 * (B : Int) ≤ (l.length : Int) := by omega
              by_cases hm : a + B < l.length
              · have p2 : (a : Int) + (B : Int) < (l.length : Int) := by omega
                have HH1 : Hid (Sorted lk a (a + B)) := by
                  have := runs_head HRV.out (by omega)
                  rwa [show min (a + B) l.length = a + B by omega] at this
                have HH2 : Hid (Sorted lk (a + B) l.length) := by
                  have := runs_head (runs_tail HRV.out) (by omega)
                  rwa [show min (a + B + B) l.length = l.length by omega] at this
                go_wp2_with fail
                have hz := HLN.out
                refine (HMG.out (2 * B) g cap lk a (a + B) l.length _ _ _ _ _ HLN.out rfl (by omega) rfl HPD.out (by omega) (by omega) (by omega) (by omega) HH1.out HH2.out (by omega)).mono ?_
                rintro e w1 ⟨rfl, l', hs', hso', hd', ho'⟩
                have HS' : Hid (Step l l' 0 l.length) := HST.out.trans (hs'.widen (by omega) (by omega))
                have HR' : Hid (Runs l' 0 l.length (2 * B)) := runs_snoc (runs_far HRU.out hs' (.inl (Nat.le_refl _))) HQ.out hso' (by omega) (by omega)
                have HD' : Hid (PendsAt w1 g 0 l') := hd'
                have HO' : Hid (Only (fun k => k = g) w w1) := HON.out.trans ho'
                clear hs' hso' hd' ho' hz
                go_wp2
                go_roundw
                case rel => unfold St2; exact ⟨2 * B, l', by congr 1; omega, by omega, by omega, HS'.out, HR'.out, HD'.out, HO'.out⟩
                case measure => simp [intOf]; omega
              · have p2 : ¬ (a : Int) + (B : Int) < (l.length : Int) := by omega
                have HR' : Hid (Runs lk 0 l.length (2 * B)) := by
                  refine runs_snoc HRU.out HQ.out ?_ ha (by omega)
                  by_cases e : a = l.length
                  · subst e; exact Sorted.one (by omega)
                  · have := runs_head HRV.out (by omega)
                    rwa [show min (a + B) l.length = l.length by omega] at this
                go_wp2
                go_roundw
                case rel => unfold St2; exact ⟨2 * B, lk, by congr 1; omega, by omega, by omega, HST.out, HR'.out, HPD.out, HON.out⟩
                case measure => simp [intOf]; omega
        · have HSO : Hid (Sorted lk 0 l.length) := runs_all HRU.out (by omega)
          have HPM : Hid (lk.Perm l) := HST.out.perm
          go_wp2
          exact bodyPost_end (v := .tuple #[]) (by simp [results, Try.results76]) rfl ⟨rfl, lk, HPM.out, HSO.out, HPD.out, HON.out⟩

set_option maxRecDepth 100000 in
theorem sortStable_any (g cap : Nat) (l : List E) (w : World) (h : PendsAt w g 0 l) (hl : l.length ≤ 2000) :
    Calls Try.prog 62 #[.slice (some ⟨g, 0, none⟩) l.length cap, .func (.func 63) #[] #[]] w fun e w' => e = .returned (.tuple #[]) ∧ ∃ l', l'.Perm l ∧ Sorted l' 0 l.length ∧ PendsAt w' g 0 l' ∧ Only (fun k => k = g) w w' := by
  have HP : Hid (PendsAt w g 0 l) := h
  clear h
  go_enter Try.func62, Try.ntmps62
  go_wp2_with fail
  refine (stable_any g cap l w HP.out hl).mono ?_
  rintro e w1 ⟨rfl, l', h1, h2, h3, h4⟩
  have H1 : Hid _ := h1
  have H2 : Hid (Sorted l' 0 l.length) := h2
  have H3 : Hid (PendsAt w1 g 0 l') := h3
  clear h1 h2 h3
  go_wp2
  exact bodyPost_end (v := .tuple #[]) (by simp [results, Try.results62]) rfl ⟨rfl, l', H1.out, H2.out, H3.out, h4⟩
end Go.Proofs.Ytkanhjafchiikaa.Srt
