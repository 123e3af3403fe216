/- Laws that the proof rests on, put together: What the model's Spread answers. What the library's stable sort of shards answers. What the program's rising shards are. -/
import Derived.Test.YtkanhjafchiikaaSpecMixS
import Derived.Test.YtkanhjafchiikaaSortMerge
import Derived.Test.YtkanhjafchiikaaRunsPure
import Derived.Test.YtkanhjafchiikaaTextsB
import Derived.Test.YtkanhjafchiikaaTextsC
import Derived.Laws.Cover3
/- What the model's Spread answers. -/
namespace Go.Proofs.Ytkanhjafchiikaa.Gf
open Go.RowKit Go.Proofs.Ytkanhjafchiikaa.Mem Go.Proofs.Ytkanhjafchiikaa.Harn

set_option maxRecDepth 100000 in
set_option maxHeartbeats 1000000 in
theorem specFirst_any (n : Nat) (w : World) (hn : n ≤ 100) :
    Calls Try.prog 75 #[.int .i64 (n : Nat)] w fun e w' => ∃ u, e = .returned u ∧ NumsK .i64 w' u (List.range n) ∧ Below w.heap.size w w' := by
  go_enter Try.func75, Try.ntmps75
  go_wp2
  go_loopw [3, 4] (fun v i wr => ∃ k : Nat, k ≤ n ∧ i = .int .i64 k ∧ OwnN .i64 2 wr w.heap.size v (List.range k) ∧ Below w.heap.size w wr) (fun _ i _ => n - (intOf i).toNat)
  case atStart => exact ⟨0, by omega, rfl, ownN_empty _ _ _ _ (Nat.le_refl _), (Below.refl _ _).alloc (Nat.le_refl _) _⟩
  case round =>
    obtain ⟨k, hk, rfl, hown, hbel⟩ := hrel
    have HOWN : Hid (OwnN .i64 2 wr w.heap.size u3 (List.range k)) := hown
    have HBEL : Hid (Below w.heap.size w wr) := hbel
    have hz := hbel.size
    by_cases hlt : k < n
    · have HE : Hid (List.range (k + 1) = List.range k ++ [k]) := List.range_succ
      have HLN : Hid ((List.range k).length = k) := List.length_range
      generalize List.range k = l at *
      clear hown hbel
      go_wp2_with (at_builtin; refine wp_i64 (by rfl) _ _ (by rfl) w.heap.size (wr.heap.size) u3 l k (by rfl) (by rfl) (World.ownsRow.alloc HOWN.out _) (size_new hz _) (cell_new _ _ _) (by have := HLN.out; omega) ?_; intro g cap w1 ho1 hb1 hz1; have HO1 : Hid _ := ho1; have HB1 : Hid _ := hb1; clear ho1 hb1)
      go_roundw
      case rel => exact ⟨k + 1, by omega, by go_num, by rw [HE.out]; exact HO1.out, ((HBEL.out.alloc HBEL.out.size _).trans HB1.out)⟩
      case measure => simp [intOf]; omega
    · obtain rfl : k = n := by omega
      have HN : Hid (NumsK .i64 wr u3 (List.range k)) := HOWN.out.nums
      clear hown hbel HOWN
      go_wp2
      go_ret
      exact ⟨_, rfl, HN.out, HBEL.out⟩

theorem ownS_of_app {W : World} {base g cap n : Nat} {ls : List ByteArray} (h : W.ownsRow base 9 1 (.slice (some ⟨g, 0, none⟩) n cap) n (ls.map Value.string)) (hn : n = ls.length) : OwnS W base (.slice (some ⟨g, 0, none⟩) n cap) ls := by
  subst hn
  unfold OwnS OwnV
  simpa using h
/-- 'append([]string{}, l...)' of at least one text -/
theorem copy_strs (ty : TypeId) (g0 : Nat) (v : Value) (ls : List ByteArray) (W : World) (h : Strs W v ls) (h0 : 0 < ls.length) (hn : ls.length ≤ 1100000) :
    ∃ g cap W1, (Builtin.append_ #[25, 25] ty #[.slice (some ⟨g0, 0, none⟩) 0 0, v]).run Try.prog W = .ok (.slice (some ⟨g, 0, none⟩) ls.length cap) W1 ∧ OwnS W1 W.heap.size (.slice (some ⟨g, 0, none⟩) ls.length cap) ls ∧ Below W.heap.size W W1 := by
  obtain ⟨a, c, rfl, hc⟩ := h
  obtain ⟨b, o, rfl, _⟩ := hc 0 (by omega)
  obtain ⟨g, cap, W1, hr, h1, h2, h3, h4, h5, h6⟩ := app_new (P := Try.prog) 25 ty 9 (.string ByteArray.empty) 1 16 underStrs infoStr rfl (by omega) ⟨g0, 0, none⟩ ⟨b, o, none⟩ ls.length c (ls.map Value.string) W (by simp) (fun j u hu => by
    rw [List.getElem?_map] at hu
    cases e : ls[j]? with
    | none => rw [e] at hu; cases hu
    | some t =>
      rw [e] at hu
      obtain ⟨hj, ht⟩ := List.getElem?_eq_some_iff.1 e
      obtain ⟨b', o', hbo, hcell⟩ := hc j hj
      injection hbo with hbo
      injection hbo with e1 e2 _
      subst e1 e2
      have hadd : (⟨b, o, none⟩ : Addr).add j = ⟨b, o + j, none⟩ := by unfold Addr.add; split <;> simp_all
      rw [hadd, hcell, ht]
      simpa using hu) (by omega) (by unfold maxLen; omega) (by omega)
  exact ⟨g, cap, W1, hr, ownS_of_app h6 rfl, h3⟩

/-- the further pieces of texts, as texts -/
def restS (ls : List ByteArray) (need L k : Nat) : List ByteArray := ls ++ (rests (ls.map nb) need L k).map toB
theorem restS_zero (ls : List ByteArray) (need L : Nat) : restS ls need L 0 = ls := by simp [restS, rests]
theorem restS_succ (ls : List ByteArray) (need L k : Nat) : restS ls need L (k + 1) = restS ls need L k ++ [toB (rest1 (ls.map nb) need L k)] := by simp [restS, rests_succ]
theorem restS_len (ls : List ByteArray) (need L k : Nat) : (restS ls need L k).length = ls.length + k := by simp [restS, rests]

set_option maxRecDepth 100000 in
set_option maxHeartbeats 1000000 in
theorem specRest_any (vl : Value) (ls : List ByteArray) (need more L : Nat) (w : World) (hl : Strs w vl ls) (h1 : 0 < need) (h2 : ls.length = need) (hn : need ≤ 20) (hm : more ≤ 20) (hL : ∀ s ∈ ls, s.size = L) (hLn : L ≤ 1000) :
    Calls Try.prog 60 #[vl, .int .i64 (need : Nat), .int .i64 (more : Nat)] w fun e w' => ∃ g cap, e = .returned (.slice (some ⟨g, 0, none⟩) (need + more) cap) ∧ OwnS w' w.heap.size (.slice (some ⟨g, 0, none⟩) (need + more) cap) (restS ls need L more) ∧ Below w.heap.size w w' := by
  have HST : Hid (Strs w vl ls) := hl
  obtain ⟨a, cap, rfl, _⟩ := hl
  have HLN : Hid (ls.length = need) := h2
  have HSZ : Hid (∀ s ∈ ls, s.size = L) := hL
  have HB0 : Hid (∀ o, Below w.heap.size w (w.alloc o)) := fun o => balloc (Below.refl _ _) o
  obtain ⟨g, cap1, w1, hr, ho, hb⟩ := copy_strs 25 w.heap.size _ ls (w.alloc (.cells #[] 9)) (Strs.below HST.out (HB0.out _)) (by omega) (by omega)
  have HO1 : Hid (OwnS w1 w.heap.size (.slice (some ⟨g, 0, none⟩) ls.length cap1) ls) := OwnV.same ho (fun _ _ => rfl) (by simp)
  have HB1 : Hid (Below w.heap.size w w1) := (HB0.out _).trans (hb.mono (by simp))
  clear ho hb h2 hL
  go_enter Try.func60, Try.ntmps60
  go_wp2_with (at_builtin; refine wp_app1 (by rfl) _ _ _ (by rfl) _ _ _ _ (by rfl) (by rfl) hr ?_)
  go_loopw [7, 8] (fun v i wr => ∃ k g cap : Nat, k ≤ more ∧ i = .int .i64 k ∧ v = .slice (some ⟨g, 0, none⟩) (need + k) cap ∧ OwnS wr w.heap.size v (restS ls need L k) ∧ Below w.heap.size w wr) (fun _ i _ => more - (intOf i).toNat)
  case atStart => exact ⟨0, g, cap1, by omega, rfl, by rw [HLN.out]; rfl, by rw [restS_zero]; exact HO1.out, HB1.out⟩
  case round =>
    obtain ⟨k, g', cap', hk, rfl, rfl, hown, hbel⟩ := hrel
    have HOWN : Hid (OwnS wr w.heap.size (.slice (some ⟨g', 0, none⟩) (need + k) cap') (restS ls need L k)) := hown
    have HBEL : Hid (Below w.heap.size w wr) := hbel
    clear HO1 HB1 hown hbel hr
    by_cases hlt : k < more
    · have HRS : Hid (restS ls need L (k + 1) = restS ls need L k ++ [toB (rest1 (ls.map nb) need L k)]) := restS_succ ls need L k
      have HRL : Hid ((restS ls need L k).length = need + k) := by show _ = _; rw [restS_len, HLN.out]
      have HR1 : Hid (rest1 (ls.map nb) need L k = mixed (weight (List.range need) (need + k)) (ls.map nb) L) := rfl
      go_wp2_with fail
      refine (specFirst_any need _ (by omega)).mono ?_
      rintro e w2 ⟨u, rfl, hnu, hb2⟩
      have HB2 : Hid (Below wr.heap.size wr w2) := hb2
      obtain ⟨au, cu, hu⟩ := hnu.shape
      rw [List.length_range] at hu
      subst hu
      have HNU : Hid (NumsK .i64 w2 (.slice au need cu) (List.range need)) := hnu
      clear hnu hb2
      go_wp2_with fail
      have e1 : ((need : Int) + (k : Int)) = ((need + k : Nat) : Int) := by push_cast; rfl
      rw [e1]
      refine (specMix_any _ _ (List.range need) ls (need + k) L _ HNU.out (Strs.below (Strs.below HST.out HBEL.out) (HB2.out)) (range_els (by omega)) (by omega) (by simp; omega) (by rw [HLN.out]; simp) (by simp; omega) HSZ.out hLn).mono ?_
      rintro e w3 ⟨rfl, hb3⟩
      rw [← HR1.out]
      have hb13 : Below wr.heap.size wr w3 := bstep HB2.out hb3
      have HB3 : Hid (Below w.heap.size w w3) := bstep HBEL.out hb13
      have HO3 : Hid (OwnS w3 w.heap.size (.slice (some ⟨g', 0, none⟩) (need + k) cap') (restS ls need L k)) := OwnS.below HOWN.out hb13 (Nat.le_refl _)
      have hz3 := HB3.out.size
      generalize toB (rest1 (ls.map nb) need L k) = y at *
      have HLL : Hid (∀ g cap w', OwnS w' w.heap.size (.slice (some ⟨g, 0, none⟩) ((restS ls need L k).length + 1) cap) (restS ls need L k ++ [y]) → OwnS w' w.heap.size (.slice (some ⟨g, 0, none⟩) (need + (k + 1)) cap) (restS ls need L (k + 1))) := fun g cap w' h => by
        rw [HRS.out]; rw [HRL.out] at h; exact h
      clear hb3 hb13 e1
      go_wp2_with (at_builtin; refine wp_str (by rfl) _ _ (by rfl) w.heap.size w3.heap.size (.slice (some ⟨g', 0, none⟩) (need + k) cap') (restS ls need L k) y (by rfl) (by rfl) (OwnS.alloc HO3.out _) (size_new hz3 _) (cell_new _ _ _) (by have := HRL.out; omega) ?_; rw [HRL.out]; intro g4 cap4 w4 ho4 hb4 hz4; have HO4 : Hid _ := ho4; have HB4 : Hid _ := hb4; clear ho4 hb4)
      go_roundw
      case rel => exact ⟨k + 1, g4, cap4, by omega, by go_num, rfl, HLL.out _ _ _ (by rw [HRL.out]; exact HO4.out), ((HB3.out.alloc HB3.out.size _).trans HB4.out)⟩
      case measure => simp [intOf]; omega
    · obtain rfl : k = more := by omega
      go_wp2
      go_ret
      exact ⟨_, _, rfl, HOWN.out, HBEL.out⟩
end Go.Proofs.Ytkanhjafchiikaa.Gf

/- What the library's stable sort of shards answers. -/
namespace Go.Proofs.Ytkanhjafchiikaa.Srt
open Go.RowKit Go.Proofs.Ytkanhjafchiikaa.Mem Go.Proofs.Ytkanhjafchiikaa.Harn Go.Proofs.Ytkanhjafchiikaa.Disk

/-- the first runs of twenty in order -/
def St1 (l : List E) (g : Nat) (w : World) (av bv : Value) (wr : World) : Prop := ∃ (a q : Nat) (lk : List E), av = .int .i64 (a : Nat) ∧ bv = .int .i64 ((a : Int) + 20) ∧ a = q * 20 ∧ a ≤ l.length ∧ Step l lk 0 l.length ∧ Runs lk 0 a 20 ∧ PendsAt wr g 0 lk ∧ Only (fun k => k = g) w wr
/-- runs of B in order -/
def St2 (l : List E) (g : Nat) (w : World) (bv : Value) (wr : World) : Prop := ∃ (B : Nat) (lk : List E), bv = .int .i64 (B : Nat) ∧ 20 ≤ B ∧ B ≤ 20000 ∧ Step l lk 0 l.length ∧ Runs lk 0 l.length B ∧ PendsAt wr g 0 lk ∧ Only (fun k => k = g) w wr
/-- runs of B being merged -/
def St3 (l : List E) (B g : Nat) (w : World) (av bv : Value) (wr : World) : Prop := ∃ (a q : Nat) (lk : List E), av = .int .i64 (a : Nat) ∧ bv = .int .i64 ((a : Int) + 2 * (B : Int)) ∧ a = q * (2 * B) ∧ a ≤ l.length ∧ Step l lk 0 l.length ∧ Runs lk 0 a (2 * B) ∧ Runs lk a l.length B ∧ PendsAt wr g 0 lk ∧ Only (fun k => k = g) w wr

theorem insertion_int (g cap : Nat) (l : List E) (a b n : Nat) (A B : Int) (w : World) (hn : n = l.length) (hA : A = (a : Nat)) (hB : B = (b : Nat)) (h : PendsAt w g 0 l) (hab : a ≤ b) (hb : b ≤ l.length) (hl : l.length ≤ 10000) :
    Calls Try.prog 84 #[.slice (some ⟨g, 0, none⟩) n cap, .int .i64 A, .int .i64 B, .func (.func 63) #[] #[]] w fun e w' => e = .returned (.tuple #[]) ∧ ∃ l', Step l l' a b ∧ Sorted l' a b ∧ PendsAt w' g 0 l' ∧ Only (fun k => k = g) w w' := by
  subst hn hA hB
  exact insertion_any g cap l a b w h hab hb hl

set_option maxRecDepth 100000 in
set_option maxHeartbeats 2000000 in
theorem stable_any (g cap : Nat) (l : List E) (w : World) (h : PendsAt w g 0 l) (hl : l.length ≤ 2000) :
    Calls Try.prog 76 #[.slice (some ⟨g, 0, none⟩) l.length cap, .int .i64 (l.length : Nat), .func (.func 63) #[] #[]] w fun e w' => e = .returned (.tuple #[]) ∧ ∃ l', l'.Perm l ∧ Sorted l' 0 l.length ∧ PendsAt w' g 0 l' ∧ Only (fun k => k = g) w w' := by
  have HP : Hid (PendsAt w g 0 l) := h
  have HMG : Hid (∀ d, MergeTo d) := mergeTo_all
  clear h
  go_enter Try.func76, Try.ntmps76
  go_wp2
  go_loopw [7, 8] (fun av bv wr => St1 l g w av bv wr) (fun av _ _ => 20000 - (intOf av).toNat)
  case atStart => unfold St1; exact ⟨0, 0, l, rfl, rfl, rfl, by omega, Step.refl _ _ _, runs_none (by omega), HP.out, Only.refl _ _⟩
  case round =>
    unfold St1 at hrel
    obtain ⟨a, q, lk, rfl, rfl, hq, ha, hst, hru, hpd, hon⟩ := hrel
    have HQ : Hid (a = q * 20) := hq
    have HST : Hid (Step l lk 0 l.length) := hst
    have HRU : Hid (Runs lk 0 a 20) := hru
    have HPD : Hid (PendsAt wr g 0 lk) := hpd
    have HON : Hid (Only (fun k => k = g) w wr) := hon
    have HLN : Hid (l.length = lk.length) := hst.len.symm
    clear HP hq hst hru hpd hon
    by_cases hlt : a + 20 ≤ l.length
    · have p1 : (a : Int) + 20 ≤ (l.length : Int) := by omega
      go_wp2_with fail
      have hz := HLN.out
      refine (insertion_int g cap lk a (a + 20) _ _ _ _ HLN.out rfl (by omega) HPD.out (by omega) (by omega) (by omega)).mono ?_
      rintro e w1 ⟨rfl, l', hs', hso', hd', ho'⟩
      have HS' : Hid (Step l l' 0 l.length) := HST.out.trans (hs'.widen (by omega) (by omega))
      have HR' : Hid (Runs l' 0 (a + 20) 20) := runs_snoc (runs_far HRU.out hs' (.inl (Nat.le_refl _))) HQ.out hso' (by omega) (Nat.le_refl _)
      have HQ' : Hid (a + 20 = (q + 1) * 20) := by have := HQ.out; show _ = _; omega
      have HD' : Hid (PendsAt w1 g 0 l') := hd'
      have HO' : Hid (Only (fun k => k = g) w w1) := HON.out.trans ho'
      clear hs' hso' hd' ho' hz
      go_wp2
      go_roundw
      case rel => unfold St1; exact ⟨a + 20, q + 1, l', by go_num, by congr 1, HQ'.out, hlt, HS'.out, HR'.out, HD'.out, HO'.out⟩
      case measure => simp [intOf]; omega
    · have p1 : ¬ (a : Int) + 20 ≤ (l.length : Int) := by omega
      go_wp2_with fail
      have hz := HLN.out
      refine (insertion_int g cap lk a l.length _ _ _ _ HLN.out rfl rfl HPD.out ha (by omega) (by omega)).mono ?_
      rintro e w1 ⟨rfl, l', hs', hso', hd', ho'⟩
      have HS' : Hid (Step l l' 0 l.length) := HST.out.trans (hs'.widen (by omega) (by omega))
      have HR' : Hid (Runs l' 0 l.length 20) := runs_snoc (runs_far HRU.out hs' (.inl (Nat.le_refl _))) HQ.out hso' ha (by omega)
      have HD' : Hid (PendsAt w1 g 0 l') := hd'
      have HO' : Hid (Only (fun k => k = g) w w1) := HON.out.trans ho'
      clear hs' hso' hd' ho' hz HST HRU HPD HON HLN HQ
      go_wp2
      go_loopw [6, 7, 8, 9] (fun bv _ _ _ wr => St2 l g w bv wr) (fun bv _ _ _ _ => 40000 - (intOf bv).toNat)
      case atStart => unfold St2; exact ⟨20, l', rfl, by omega, by omega, HS'.out, HR'.out, HD'.out, HO'.out⟩
      case round =>
        clear HS' HR' HD' HO'
        unfold St2 at hrel
        obtain ⟨B, lk, rfl, hB1, hB2, hst, hru, hpd, hon⟩ := hrel
        have HST : Hid (Step l lk 0 l.length) := hst
        have HRU : Hid (Runs lk 0 l.length B) := hru
        have HPD : Hid (PendsAt wr g 0 lk) := hpd
        have HON : Hid (Only (fun k => k = g) w wr) := hon
        clear hst hru hpd hon
        by_cases hlt : B < l.length
        · go_wp2
          go_loopw [7, 8] (fun av bv wr => St3 l B g w av bv wr) (fun av _ _ => 20000 - (intOf av).toNat)
          case atStart => unfold St3; exact ⟨0, 0, lk, rfl, by congr 1; omega, by omega, by omega, HST.out, runs_none (by omega), HRU.out, HPD.out, HON.out⟩
          case round =>
            clear HST HRU HPD HON
            unfold St3 at hrel
            obtain ⟨a, q, lk, rfl, rfl, hq, ha, hst, hru, hru2, hpd, hon⟩ := hrel
            have HQ : Hid (a = q * (2 * B)) := hq
            have HST : Hid (Step l lk 0 l.length) := hst
            have HRU : Hid (Runs lk 0 a (2 * B)) := hru
            have HRV : Hid (Runs lk a l.length B) := hru2
            have HPD : Hid (PendsAt wr g 0 lk) := hpd
            have HON : Hid (Only (fun k => k = g) w wr) := hon
            have HLN : Hid (l.length = lk.length) := hst.len.symm
            clear hq hst hru hru2 hpd hon
            by_cases hle : a + 2 * B ≤ l.length
            · have p1 : (a : Int) + 2 * (B : Int) ≤ (l.length : Int) := by omega
              have HH1 : Hid (Sorted lk a (a + B)) := by
                have := runs_head HRV.out (by omega)
                rwa [show min (a + B) l.length = a + B by omega] at this
              have HH2 : Hid (Sorted lk (a + B) (a + 2 * B)) := by
                have := runs_head (runs_tail HRV.out) (by omega)
                rwa [show min (a + B + B) l.length = a + 2 * B by omega] at this
              go_wp2_with fail
              have hz := HLN.out
              refine (HMG.out (2 * B) g cap lk a (a + B) (a + 2 * B) _ _ _ _ _ HLN.out rfl (by omega) (by omega) HPD.out (by omega) (by omega) (by omega) (by omega) HH1.out HH2.out (by omega)).mono ?_
              rintro e w1 ⟨rfl, l', hs', hso', hd', ho'⟩
              have HS' : Hid (Step l l' 0 l.length) := HST.out.trans (hs'.widen (by omega) (by omega))
              have HR' : Hid (Runs l' 0 (a + 2 * B) (2 * B)) := runs_snoc (runs_far HRU.out hs' (.inl (Nat.le_refl _))) HQ.out hso' (by omega) (Nat.le_refl _)
              have HR2' : Hid (Runs l' (a + 2 * B) l.length B) := by
                have := runs_far (runs_tail (runs_tail HRV.out)) hs' (.inr (by omega))
                rwa [show a + B + B = a + 2 * B by omega] at this
              have HQ' : Hid (a + 2 * B = (q + 1) * (2 * B)) := by have := HQ.out; show _ = _; rw [Nat.add_mul, Nat.one_mul, ← this]
              have HD' : Hid (PendsAt w1 g 0 l') := hd'
              have HO' : Hid (Only (fun k => k = g) w w1) := HON.out.trans ho'
              clear hs' hso' hd' ho' hz
              go_wp2
              go_roundw
              case rel => unfold St3; exact ⟨a + 2 * B, q + 1, l', by congr 1, by congr 1, HQ'.out, hle, HS'.out, HR'.out, HR2'.out, HD'.out, HO'.out⟩
              case measure => simp [intOf]; omega
            · have p1 : ¬ (a : Int) + 2 * (B : Int) ≤ (l.length : Int) := by omega
              by_cases hm : a + B < l.length
              · have p2 : (a : Int) + (B : Int) < (l.length : Int) := by omega
                have HH1 : Hid (Sorted lk a (a + B)) := by
                  have := runs_head HRV.out (by omega)
                  rwa [show min (a + B) l.length = a + B by omega] at this
                have HH2 : Hid (Sorted lk (a + B) l.length) := by
                  have := runs_head (runs_tail HRV.out) (by omega)
                  rwa [show min (a + B + B) l.length = l.length by omega] at this
                go_wp2_with fail
                have hz := HLN.out
                refine (HMG.out (2 * B) g cap lk a (a + B) l.length _ _ _ _ _ HLN.out rfl (by omega) rfl HPD.out (by omega) (by omega) (by omega) (by omega) HH1.out HH2.out (by omega)).mono ?_
                rintro e w1 ⟨rfl, l', hs', hso', hd', ho'⟩
                have HS' : Hid (Step l l' 0 l.length) := HST.out.trans (hs'.widen (by omega) (by omega))
                have HR' : Hid (Runs l' 0 l.length (2 * B)) := runs_snoc (runs_far HRU.out hs' (.inl (Nat.le_refl _))) HQ.out hso' (by omega) (by omega)
                have HD' : Hid (PendsAt w1 g 0 l') := hd'
                have HO' : Hid (Only (fun k => k = g) w w1) := HON.out.trans ho'
                clear hs' hso' hd' ho' hz
                go_wp2
                go_roundw
                case rel => unfold St2; exact ⟨2 * B, l', by congr 1; omega, by omega, by omega, HS'.out, HR'.out, HD'.out, HO'.out⟩
                case measure => simp [intOf]; omega
              · have p2 : ¬ (a : Int) + (B : Int) < (l.length : Int) := by omega
                have HR' : Hid (Runs lk 0 l.length (2 * B)) := by
                  refine runs_snoc HRU.out HQ.out ?_ ha (by omega)
                  by_cases e : a = l.length
                  · subst e; exact Sorted.one (by omega)
                  · have := runs_head HRV.out (by omega)
                    rwa [show min (a + B) l.length = l.length by omega] at this
                go_wp2
                go_roundw
                case rel => unfold St2; exact ⟨2 * B, lk, by congr 1; omega, by omega, by omega, HST.out, HR'.out, HPD.out, HON.out⟩
                case measure => simp [intOf]; omega
        · have HSO : Hid (Sorted lk 0 l.length) := runs_all HRU.out (by omega)
          have HPM : Hid (lk.Perm l) := HST.out.perm
          go_wp2
          exact bodyPost_end (v := .tuple #[]) (by simp [results, Try.results76]) rfl ⟨rfl, lk, HPM.out, HSO.out, HPD.out, HON.out⟩

set_option maxRecDepth 100000 in
theorem sortStable_any (g cap : Nat) (l : List E) (w : World) (h : PendsAt w g 0 l) (hl : l.length ≤ 2000) :
    Calls Try.prog 62 #[.slice (some ⟨g, 0, none⟩) l.length cap, .func (.func 63) #[] #[]] w fun e w' => e = .returned (.tuple #[]) ∧ ∃ l', l'.Perm l ∧ Sorted l' 0 l.length ∧ PendsAt w' g 0 l' ∧ Only (fun k => k = g) w w' := by
  have HP : Hid (PendsAt w g 0 l) := h
  clear h
  go_enter Try.func62, Try.ntmps62
  go_wp2_with fail
  refine (stable_any g cap l w HP.out hl).mono ?_
  rintro e w1 ⟨rfl, l', h1, h2, h3, h4⟩
  have H1 : Hid _ := h1
  have H2 : Hid (Sorted l' 0 l.length) := h2
  have H3 : Hid (PendsAt w1 g 0 l') := h3
  clear h1 h2 h3
  go_wp2
  exact bodyPost_end (v := .tuple #[]) (by simp [results, Try.results62]) rfl ⟨rfl, l', H1.out, H2.out, H3.out, h4⟩
end Go.Proofs.Ytkanhjafchiikaa.Srt

/- What the program's rising shards are. -/
namespace Go.Proofs.Ytkanhjafchiikaa.Srt
open Go.RowKit Go.Proofs.Ytkanhjafchiikaa.Mem Go.Proofs.Ytkanhjafchiikaa.Harn Go.Proofs.Ytkanhjafchiikaa.Disk

theorem underShards : Try.prog.underlying 27 = some (.slice 36) := by kernel_rfl
theorem infoShard : (Try.prog.info? 36).map (fun i => (i.zero, i.size, i.bytes)) = some (some (.agg #[.int .i64 0, .string ByteArray.empty]), 2, 24) := by kernel_rfl

theorem eql_nil (a : Option Addr) (n c : Nat) (W : World) : (binOp .eql 27 (.slice a n c) (.slice none 0 0)).run Try.prog W = .ok (.bool a.isNone) W := by
  simp only [binOp]
  simp [run_equal_slice_nil W _ _ a n c underShards]

/-- 'append([]Shard{}, s...)' of at least one shard -/
theorem copy_shards (ty : TypeId) (g0 : Nat) (v : Value) (lp : List E) (W : World) (h : Pends W v lp) (h0 : 0 < lp.length) (hn : lp.length ≤ 1100000) :
    ∃ g cap W1, (Builtin.append_ #[27, 27] ty #[.slice (some ⟨g0, 0, none⟩) 0 0, v]).run Try.prog W = .ok (.slice (some ⟨g, 0, none⟩) lp.length cap) W1 ∧ PendsAt W1 g 0 lp ∧ W.heap.size ≤ g ∧ lp.length ≤ cap ∧ Below W.heap.size W W1 := by
  obtain ⟨a, c, rfl, hc⟩ := h
  obtain ⟨b, o, rfl, _⟩ := hc 0 h0
  obtain ⟨g, cap, W1, hr, h1, h2, h3, h4, h5, hown⟩ := app_new (P := Try.prog) 27 ty 36 (.agg #[.int .i64 0, .string ByteArray.empty]) 2 24 underShards infoShard rfl (by omega) ⟨g0, 0, none⟩ ⟨b, o, none⟩ lp.length c (pcells lp) W (length_pcells lp) (fun j u hu => by
    have hl := length_pcells lp
    have hj : j < (pcells lp).length := by
      rcases Nat.lt_or_ge j (pcells lp).length with h | h
      · exact h
      · rw [List.getElem?_eq_none h] at hu; cases hu
    obtain ⟨q1, q2⟩ := pcells_at lp (j / 2) (by omega)
    obtain ⟨b', o', hbo, hc1, hc2⟩ := hc (j / 2) (by omega)
    injection hbo with hbo
    injection hbo with e1 e2 _
    subst e1 e2
    have hadd : (⟨b, o, none⟩ : Addr).add j = ⟨b, o + j, none⟩ := by unfold Addr.add; split <;> simp_all
    rw [hadd]
    by_cases hp : j % 2 = 0
    · rw [show j / 2 * 2 = j by omega] at q1 hc1
      rw [hc1, ← q1, hu]
    · rw [show j / 2 * 2 + 1 = j by omega] at q2
      rw [show o + j / 2 * 2 + 1 = o + j by omega] at hc2
      rw [hc2, ← q2, hu]) (by omega) (by unfold maxLen; omega) (by omega)
  have hcap : lp.length ≤ cap := by
    rcases hown.2 with ⟨h0', _⟩ | ⟨g', cap', cur, hv, _, _, hle, _⟩
    · cases h0'
    · injection hv with _ _ hv3; omega
  exact ⟨g, cap, W1, hr, fun j hj => by
    obtain ⟨q1, q2⟩ := pcells_at lp j hj
    rw [Nat.zero_add]
    exact ⟨h4 _ _ q1, h4 _ _ q2, h5 _, h5 _⟩, h1, hcap, h3⟩

theorem insertion_none (a : Option Addr) (cap : Nat) (f : Value) (w : World) :
    Calls Try.prog 84 #[.slice a 0 cap, .int .i64 0, .int .i64 0, f] w fun e w' => e = .returned (.tuple #[]) ∧ w = w' := by
  go_enter Try.func84, Try.ntmps84
  go_wp2
  go_loop [8] (fun i => i = .int .i64 1) (fun _ => 0)
  case atStart => rfl
  case round =>
    subst hrel
    go_wp2
    exact bodyPost_end (v := .tuple #[]) (by simp [results, Try.results84]) rfl ⟨rfl, rfl⟩
theorem stable_none (a : Option Addr) (cap : Nat) (f : Value) (w : World) :
    Calls Try.prog 76 #[.slice a 0 cap, .int .i64 0, f] w fun e w' => e = .returned (.tuple #[]) ∧ w = w' := by
  go_enter Try.func76, Try.ntmps76
  go_wp2
  go_loop [7, 8] (fun a b => a = .int .i64 0 ∧ b = .int .i64 20) (fun _ _ => 0)
  case atStart => exact ⟨rfl, rfl⟩
  case round =>
    obtain ⟨rfl, rfl⟩ := hrel
    go_wp2_with (go_at_call 84; refine (insertion_none _ _ _ _).mono ?_; rintro e w' ⟨rfl, rfl⟩)
    go_loop [6] (fun b => b = .int .i64 20) (fun _ => 0)
    case atStart => rfl
    case round =>
      subst hrel
      go_wp2
      exact bodyPost_end (v := .tuple #[]) (by simp [results, Try.results76]) rfl ⟨rfl, rfl⟩
theorem sortStable_none (a : Option Addr) (cap : Nat) (f : Value) (w : World) :
    Calls Try.prog 62 #[.slice a 0 cap, f] w fun e w' => e = .returned (.tuple #[]) ∧ w = w' := by
  go_enter Try.func62, Try.ntmps62
  go_wp2_with (go_at_call 76; refine (stable_none _ _ _ _).mono ?_; rintro e w' ⟨rfl, rfl⟩)
  exact bodyPost_end (v := .tuple #[]) (by simp [results, Try.results62]) rfl ⟨rfl, rfl⟩

set_option maxRecDepth 100000 in
theorem clone_some (v : Value) (l : List E) (w : World) (h : Pends w v l) (h0 : 0 < l.length) (hn : l.length ≤ 1000000) :
    Calls Try.prog 61 #[v] w fun e w' => ∃ g cap, e = .returned (.slice (some ⟨g, 0, none⟩) l.length cap) ∧ PendsAt w' g 0 l ∧ w.heap.size ≤ g ∧ l.length ≤ cap ∧ Below w.heap.size w w' := by
  have hb0 : Below w.heap.size w (w.alloc (.cells #[] 36)) := (Below.refl _ _).alloc (Nat.le_refl _) _
  obtain ⟨g, cap, W1, hr, hp, hg, hc, hb⟩ := copy_shards 27 w.heap.size v l (w.alloc (.cells #[] 36)) (Pends.below h hb0) h0 (by omega)
  have HB : Hid (Below w.heap.size w W1) := hb0.trans (hb.mono (by simp))
  have HP : Hid (PendsAt W1 g 0 l) := hp
  have hg' : w.heap.size ≤ g := by simp at hg; omega
  obtain ⟨a, c, rfl, hcc⟩ := h
  obtain ⟨b, o, rfl, _⟩ := hcc 0 h0
  have heq := eql_nil (some ⟨b, o, none⟩) l.length c
  simp only [Option.isNone_some] at heq
  clear hcc hb0 hb hp hg
  go_enter Try.func61, Try.ntmps61
  go_wp2_with (at_builtin; refine Gf.wp_app1 (by rfl) _ _ _ (by rfl) _ _ _ _ (by rfl) (by rfl) hr ?_)
  go_ret
  exact ⟨_, _, rfl, HP.out, hg', hc, HB.out⟩

theorem clone_none (a : Option Addr) (c : Nat) (w : World) :
    Calls Try.prog 61 #[.slice a 0 c] w fun e w' => ∃ b d, e = .returned (.slice b 0 d) ∧ Below w.heap.size w w' := by
  cases a with
  | none =>
    have heq := eql_nil none 0 c
    simp only [Option.isNone_none] at heq
    go_enter Try.func61, Try.ntmps61
    go_wp2
    go_ret
    exact ⟨_, _, rfl, Below.refl _ _⟩
  | some x =>
    have heq := eql_nil (some x) 0 c
    simp only [Option.isNone_some] at heq
    have hr := app_none (P := Try.prog) 27 27 36 _ _ _ underShards infoShard ⟨w.heap.size, 0, none⟩ (some x) c (w.alloc (.cells #[] 36))
    go_enter Try.func61, Try.ntmps61
    go_wp2_with (at_builtin; refine Gf.wp_app1 (by rfl) _ _ _ (by rfl) _ _ _ _ (by rfl) (by rfl) hr ?_)
    go_ret
    exact ⟨_, _, rfl, (Below.refl _ _).alloc (Nat.le_refl _) _⟩

set_option maxRecDepth 100000 in
theorem rising_any (v : Value) (l : List E) (w : World) (h : Pends w v l) (hn : l.length ≤ 2000) :
    Calls Try.prog 38 #[v] w fun e w' => ∃ a cap l', e = .returned (.slice a l.length cap) ∧ l'.Perm l ∧ Sorted l' 0 l.length ∧ Pends w' (.slice a l.length cap) l' ∧ l.length ≤ cap ∧ Below w.heap.size w w' := by
  by_cases h0 : l.length = 0
  · obtain ⟨a, c, rfl, _⟩ := h
    obtain rfl : l = [] := List.length_eq_zero_iff.1 h0
    clear h0
    go_enter Try.func38, Try.ntmps38
    go_wp2_with fail
    refine (clone_none a c w).mono ?_
    rintro e w1 ⟨b, d, rfl, hb⟩
    go_wp2_with fail
    refine (sortStable_none b d _ _).mono ?_
    rintro e w2 ⟨rfl, rfl⟩
    go_wp2
    go_ret
    exact ⟨b, d, [], rfl, List.Perm.refl _, Sorted.one (by simp), ⟨b, d, rfl, fun j hj => by simp at hj⟩, by simp, hb⟩
  · have HC : Hid (Calls Try.prog 61 #[v] w fun e w' => ∃ g cap, e = .returned (.slice (some ⟨g, 0, none⟩) l.length cap) ∧ PendsAt w' g 0 l ∧ w.heap.size ≤ g ∧ l.length ≤ cap ∧ Below w.heap.size w w') := clone_some v l w h (by omega) (by omega)
    obtain ⟨a, c, rfl, _⟩ := h
    clear h0
    go_enter Try.func38, Try.ntmps38
    go_wp2_with fail
    refine HC.out.mono ?_
    rintro e w1 ⟨g, cap, rfl, hp, hg, hc, hb⟩
    have HP : Hid (PendsAt w1 g 0 l) := hp
    have HB : Hid (Below w.heap.size w w1) := hb
    have hz := hb.size
    clear hp hb
    go_wp2_with fail
    refine (sortStable_any g cap l _ HP.out hn).mono ?_
    rintro e w2 ⟨rfl, l', h1, h2, h3, h4⟩
    have HL : Hid (l'.length = l.length) := h1.length_eq
    have H1 : Hid (l'.Perm l) := h1
    have H2 : Hid (Sorted l' 0 l.length) := h2
    have H3 : Hid (Pends w2 (.slice (some ⟨g, 0, none⟩) l.length cap) l') := by
      have := h3.pends cap
      rw [HL.out] at this; exact this
    have HB2 : Hid (Below w.heap.size w w2) := h4.below HB.out hz (fun k hk e => by omega)
    clear h1 h2 h3 h4
    go_wp2
    go_ret
    exact ⟨_, cap, l', rfl, H1.out, H2.out, H3.out, hc, HB2.out⟩
end Go.Proofs.Ytkanhjafchiikaa.Srt
