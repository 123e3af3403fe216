/- What the library's swaps and rotations of shards answer, and the order of the shards. -/
import Derived.Test.YtkanhjafchiikaaSortPure
import Derived.Test.YtkanhjafchiikaaTextsB
import Derived.Deep.RegionHeld3
namespace Go.Proofs.Ytkanhjafchiikaa.Srt
open Go.RowKit Go.Proofs.Ytkanhjafchiikaa.Mem Go.Proofs.Ytkanhjafchiikaa.Harn Go.Proofs.Ytkanhjafchiikaa.Disk

/-- how two numbers compare -/
def cmpZ (x y : Int) : Int := if x < y then -1 else if y < x then 1 else 0
theorem cmpZ_lt (x y : Int) : decide (cmpZ x y < 0) = decide (x < y) := by
  unfold cmpZ; split
  · simp_all
  · split <;> simp_all
theorem isNaN_any (x : Int) (w : World) : Calls Try.prog 77 #[.int .i64 x] w fun e w' => e = .returned (.bool false) ∧ w = w' := by
  go_enter Try.func77, Try.ntmps77
  go_wp2
  go_ret
  exact ⟨by simp, rfl⟩
theorem compare_any (x y : Int) (w : World) : Calls Try.prog 64 #[.int .i64 x, .int .i64 y] w fun e w' => e = .returned (.int .i64 (cmpZ x y)) ∧ w = w' := by
  by_cases h1 : x < y
  · have hz : cmpZ x y = -1 := by unfold cmpZ; rw [if_pos h1]
    rw [hz]
    go_enter Try.func64, Try.ntmps64
    go_wp2_with (go_at_call 77; refine (isNaN_any _ _).mono ?_; rintro e w' ⟨rfl, rfl⟩)
    go_ret
    exact ⟨rfl, rfl⟩
  · by_cases h2 : y < x
    · have hz : cmpZ x y = 1 := by unfold cmpZ; rw [if_neg h1, if_pos h2]
      rw [hz]
      go_enter Try.func64, Try.ntmps64
      go_wp2_with (go_at_call 77; refine (isNaN_any _ _).mono ?_; rintro e w' ⟨rfl, rfl⟩)
      go_ret
      exact ⟨rfl, rfl⟩
    · have hz : cmpZ x y = 0 := by unfold cmpZ; rw [if_neg h1, if_neg h2]
      rw [hz]
      go_enter Try.func64, Try.ntmps64
      go_wp2_with (go_at_call 77; refine (isNaN_any _ _).mono ?_; rintro e w' ⟨rfl, rfl⟩)
      go_ret
      exact ⟨rfl, rfl⟩
theorem order_any (x y : Int) (s t : ByteArray) (w : World) :
    Calls Try.prog 63 #[.agg #[.int .i64 x, .string s], .agg #[.int .i64 y, .string t]] w fun e w' => e = .returned (.int .i64 (cmpZ x y)) ∧ Below w.heap.size w w' := by
  go_enter Try.func63, Try.ntmps63
  go_wp2_with (go_at_call 64; refine (compare_any _ _ _).mono ?_; rintro e w' ⟨rfl, rfl⟩)
  go_ret
  exact ⟨rfl, ((Below.refl _ _).alloc (Nat.le_refl _) _).alloc (by simp) _⟩

theorem only_set {p : Nat → Prop} {w : World} {b o : Nat} {v : Value} (hp : p b) : Only p w (w.setCell ⟨b, o, none⟩ v) := ⟨rfl, rfl, rfl, by simp, fun k _ hk => Below.heap_setCell _ _ _ _ (fun e => hk (by simp only at e; subst e; exact hp))⟩
theorem only_drew {p : Nat → Prop} {w w' : World} (h : Only p w w') : Only p w w'.drew := ⟨h.os, h.tape, h.output, h.size, h.block⟩
theorem at_drew {w : World} {g : Nat} {l : List E} (h : PendsAt w g 0 l) : PendsAt w.drew g 0 l := h

/-- two shards swapped in memory -/
theorem swap_mem {w : World} {g i j : Nat} {l : List E} (h : PendsAt w g 0 l) (hi : i < l.length) (hj : j < l.length) :
    PendsAt ((((w.setCell ⟨g, i * 2, none⟩ (.int .i64 l[j].1)).setCell ⟨g, i * 2 + 1, none⟩ (.string l[j].2)).setCell ⟨g, j * 2, none⟩ (.int .i64 l[i].1)).setCell ⟨g, j * 2 + 1, none⟩ (.string l[i].2)) g 0 (swapL l i j) := by
  have h1 := h.set hi l[j].1 l[j].2
  have h2 := h1.set (i := j) (by simpa using hj) l[i].1 l[i].2
  have e : swapL l i j = (l.set i (l[j].1, l[j].2)).set j (l[i].1, l[i].2) := by unfold swapL; simp [hi, hj]
  rw [e]
  simpa using h2
theorem swapL_comm {l : List E} {i j : Nat} (hi : i < l.length) (hj : j < l.length) : swapL l i j = swapL l j i := by
  apply List.ext_getElem?
  intro x
  rw [swapL_get hi hj, swapL_get hj hi]
  by_cases e1 : x = i
  · subst e1
    by_cases e2 : x = j
    · subst e2; rfl
    · rw [if_pos rfl, if_neg e2, if_pos rfl]
  · rw [if_neg e1]
    by_cases e2 : x = j
    · rw [if_pos e2, if_pos e2]
    · rw [if_neg e2, if_neg e2, if_neg e1]
theorem swap_only {w : World} {g a b c d : Nat} {u v x y : Value} : Only (fun k => k = g) w ((((w.setCell ⟨g, a, none⟩ u).setCell ⟨g, b, none⟩ v).setCell ⟨g, c, none⟩ x).setCell ⟨g, d, none⟩ y) :=
  (only_set (p := fun k => k = g) rfl).trans ((only_set (p := fun k => k = g) rfl).trans ((only_set (p := fun k => k = g) rfl).trans (only_set (p := fun k => k = g) rfl)))

set_option maxRecDepth 100000 in
set_option maxHeartbeats 2000000 in
theorem swapRange_any (g cap : Nat) (l : List E) (a b n : Nat) (f : Value) (w : World) (h : PendsAt w g 0 l) (hab : a + n ≤ b) (hb : b + n ≤ l.length) (hl : l.length ≤ 10000) :
    Calls Try.prog 89 #[.slice (some ⟨g, 0, none⟩) l.length cap, .int .i64 (a : Nat), .int .i64 (b : Nat), .int .i64 (n : Nat), f] w fun e w' => e = .returned (.tuple #[]) ∧ ∃ l', l'.Perm l ∧ (∀ x, l'[x]? = SwpF (fun x => l[x]?) a b n x) ∧ PendsAt w' g 0 l' ∧ Only (fun k => k = g) w w' := by
  have HP : Hid (PendsAt w g 0 l) := h
  clear h
  go_enter Try.func89, Try.ntmps89
  go_wp2
  go_loopw [10] (fun i wr => ∃ (k : Nat) (lk : List E), k ≤ n ∧ i = .int .i64 k ∧ lk.Perm l ∧ (∀ x, lk[x]? = SwpF (fun x => l[x]?) a b k x) ∧ PendsAt wr g 0 lk ∧ Only (fun k => k = g) w wr) (fun i _ => n - (intOf i).toNat)
  case atStart => exact ⟨0, l, by omega, rfl, List.Perm.refl _, fun x => by rw [swpF_zero], HP.out, Only.refl _ _⟩
  case round =>
    obtain ⟨k, lk, hk, rfl, hpm, hfn, hpd, hon⟩ := hrel
    have hlen := hpm.length_eq
    have HPM : Hid (lk.Perm l) := hpm
    have HFN : Hid (∀ x, lk[x]? = SwpF (fun x => l[x]?) a b k x) := hfn
    have HPD : Hid (PendsAt wr g 0 lk) := hpd
    have HON : Hid (Only (fun k => k = g) w wr) := hon
    have HLN : Hid (lk.length = l.length) := hlen
    clear HP hpm hfn hpd hon hlen
    by_cases hlt : k < n
    · have hln := HLN.out
      obtain ⟨c1, c2, f1, f2⟩ := HPD.out (a + k) (by omega)
      obtain ⟨c3, c4, f3, f4⟩ := HPD.out (b + k) (by omega)
      rw [Nat.zero_add] at c1 c2 f1 f2 c3 c4 f3 f4
      have HM1 : Hid _ := swap_mem HPD.out (i := a + k) (j := b + k) (by omega) (by omega)
      have HM2 : Hid _ := swap_mem HPD.out (i := b + k) (j := a + k) (by omega) (by omega)
      have HSC : Hid (swapL lk (a + k) (b + k) = swapL lk (b + k) (a + k)) := swapL_comm (by omega) (by omega)
      have HPS : Hid ((swapL lk (a + k) (b + k)).Perm l) := (swapL_perm (by omega) (by omega)).trans HPM.out
      have HFS : Hid (∀ x, (swapL lk (a + k) (b + k))[x]? = SwpF (fun x => l[x]?) a b (k + 1) x) := fun x => swpF_succ HFN.out (by omega) (by omega) x
      have p1 : (a : Int) + (k : Int) < (l.length : Int) := by omega
      have p2 : (b : Int) + (k : Int) < (l.length : Int) := by omega
      have p3 : ¬ a + k = b + k := by omega
      generalize lk[a + k].1 = x1 at *
      generalize lk[a + k].2 = t1 at *
      generalize lk[b + k].1 = x2 at *
      generalize lk[b + k].2 = t2 at *
      clear hln
      go_wp2_with fail
      go_region
      go_wp2
      go_roundw
      case rel => exact ⟨k + 1, swapL lk (a + k) (b + k), by omega, by go_num, HPS.out, HFS.out, HM1.out, only_drew (HON.out.trans swap_only)⟩
      case measure => simp [intOf]; omega
    · obtain rfl : k = n := by omega
      go_wp2
      exact bodyPost_end (v := .tuple #[]) (by simp [results, Try.results89]) rfl ⟨rfl, lk, HPM.out, HFN.out, HPD.out, HON.out⟩

theorem swapRange_int (g cap : Nat) (l : List E) (a b n : Nat) (f : Value) (w : World) (h : PendsAt w g 0 l) (hab : a + n ≤ b) (hb : b + n ≤ l.length) (hl : l.length ≤ 10000) (m : Nat) (A B N : Int) (hm : m = l.length) (hA : A = (a : Nat)) (hB : B = (b : Nat)) (hN : N = (n : Nat)) :
    Calls Try.prog 89 #[.slice (some ⟨g, 0, none⟩) m cap, .int .i64 A, .int .i64 B, .int .i64 N, f] w fun e w' => e = .returned (.tuple #[]) ∧ ∃ l', l'.Perm l ∧ (∀ x, l'[x]? = SwpF (fun x => l[x]?) a b n x) ∧ PendsAt w' g 0 l' ∧ Only (fun k => k = g) w w' := by
  subst hm hA hB hN
  exact swapRange_any g cap l a b n f w h hab hb hl

set_option maxRecDepth 100000 in
set_option maxHeartbeats 2000000 in
theorem rotate_any (g cap : Nat) (l : List E) (lo m hi : Nat) (f : Value) (w : World) (h : PendsAt w g 0 l) (h1 : lo < m) (h2 : m < hi) (hb : hi ≤ l.length) (hl : l.length ≤ 10000) :
    Calls Try.prog 88 #[.slice (some ⟨g, 0, none⟩) l.length cap, .int .i64 (lo : Nat), .int .i64 (m : Nat), .int .i64 (hi : Nat), f] w fun e w' => e = .returned (.tuple #[]) ∧ ∃ l', l'.Perm l ∧ (∀ x, l'[x]? = RotF (fun x => l[x]?) lo m hi x) ∧ PendsAt w' g 0 l' ∧ Only (fun k => k = g) w w' := by
  have HP : Hid (PendsAt w g 0 l) := h
  clear h
  go_enter Try.func88, Try.ntmps88
  go_wp2
  go_loopw [10, 11] (fun iv jv wr => ∃ (i j : Nat) (lk : List E), iv = .int .i64 (i : Nat) ∧ jv = .int .i64 (j : Nat) ∧ 0 < i ∧ 0 < j ∧ lo + i ≤ m ∧ m + j ≤ hi ∧ lk.Perm l ∧ (∀ x, RotF (fun x => lk[x]?) (m - i) m (m + j) x = RotF (fun x => l[x]?) lo m hi x) ∧ PendsAt wr g 0 lk ∧ Only (fun k => k = g) w wr) (fun iv jv _ => (intOf iv).toNat + (intOf jv).toNat)
  case atStart => exact ⟨m - lo, hi - m, l, by congr 1; omega, by congr 1; omega, by omega, by omega, by omega, by omega, List.Perm.refl _, fun x => by rw [show m - (m - lo) = lo by omega, show m + (hi - m) = hi by omega], HP.out, Only.refl _ _⟩
  case round =>
    obtain ⟨i, j, lk, rfl, rfl, hi0, hj0, hi1, hj1, hpm, hfn, hpd, hon⟩ := hrel
    have HPM : Hid (lk.Perm l) := hpm
    have HFN : Hid (∀ x, RotF (fun x => lk[x]?) (m - i) m (m + j) x = RotF (fun x => l[x]?) lo m hi x) := hfn
    have HPD : Hid (PendsAt wr g 0 lk) := hpd
    have HON : Hid (Only (fun k => k = g) w wr) := hon
    have HLN : Hid (l.length = lk.length) := hpm.length_eq.symm
    clear HP hpm hfn hpd hon
    by_cases hij : i = j
    · have hb0 : ((i : Int) != (j : Int)) = false := by rw [bne_eq_false_iff_eq]; omega
      have hij' : Hid (i = j) := hij
      clear hij
      go_wp2_with fail
      refine (swapRange_int g cap lk (m - i) m i f _ HPD.out (by omega) (by have := HLN.out; have := hij'.out; omega) (by have := HLN.out; omega) _ _ _ _ HLN.out (by omega) rfl rfl).mono ?_
      rintro e w1 ⟨rfl, l', hp', hf', hd', ho'⟩
      have HPM' : Hid (l'.Perm l) := hp'.trans HPM.out
      have HFN' : Hid (∀ x, l'[x]? = RotF (fun x => l[x]?) lo m hi x) := fun x => by
        rw [hf' x, rot_end _ _ _ (by omega), ← HFN.out x]
        have := hij'.out; subst this; rfl
      have HPD' : Hid (PendsAt w1 g 0 l') := hd'
      have HON' : Hid (Only (fun k => k = g) w w1) := HON.out.trans ho'
      clear hp' hf' hd' ho'
      go_wp2
      exact bodyPost_end (v := .tuple #[]) (by simp [results, Try.results88]) rfl ⟨rfl, l', HPM'.out, HFN'.out, HPD'.out, HON'.out⟩
    · have hb0 : ((i : Int) != (j : Int)) = true := by rw [bne_iff_ne]; omega
      by_cases hgt : j < i
      · clear hij
        go_wp2_with fail
        refine (swapRange_int g cap lk (m - i) m j f _ HPD.out (by omega) (by have := HLN.out; omega) (by have := HLN.out; omega) _ _ _ _ HLN.out (by omega) rfl rfl).mono ?_
        rintro e w1 ⟨rfl, l', hp', hf', hd', ho'⟩
        have HPM' : Hid (l'.Perm l) := hp'.trans HPM.out
        have HFN' : Hid (∀ x, RotF (fun x => l'[x]?) (m - (i - j)) m (m + j) x = RotF (fun x => l[x]?) lo m hi x) := fun x => by
          have e : (fun x => l'[x]?) = SwpF (fun x => lk[x]?) (m - i) m j := funext hf'
          rw [e, rot_more _ _ _ _ (by omega) hgt, ← HFN.out x]
        have HPD' : Hid (PendsAt w1 g 0 l') := hd'
        have HON' : Hid (Only (fun k => k = g) w w1) := HON.out.trans ho'
        clear hp' hf' hd' ho'
        go_wp2
        go_roundw
        case rel => exact ⟨i - j, j, l', by congr 1; omega, rfl, by omega, by omega, by omega, by omega, HPM'.out, HFN'.out, HPD'.out, HON'.out⟩
        case measure => simp [intOf]; omega
      · have hlt : i < j := by omega
        clear hij
        go_wp2_with fail
        refine (swapRange_int g cap lk (m - i) (m + j - i) i f _ HPD.out (by omega) (by have := HLN.out; omega) (by have := HLN.out; omega) _ _ _ _ HLN.out (by omega) (by omega) rfl).mono ?_
        rintro e w1 ⟨rfl, l', hp', hf', hd', ho'⟩
        have HPM' : Hid (l'.Perm l) := hp'.trans HPM.out
        have HFN' : Hid (∀ x, RotF (fun x => l'[x]?) (m - i) m (m + (j - i)) x = RotF (fun x => l[x]?) lo m hi x) := fun x => by
          have e : (fun x => l'[x]?) = SwpF (fun x => lk[x]?) (m - i) (m + j - i) i := funext hf'
          rw [e, rot_less _ _ _ _ (by omega) hlt, ← HFN.out x]
        have HPD' : Hid (PendsAt w1 g 0 l') := hd'
        have HON' : Hid (Only (fun k => k = g) w w1) := HON.out.trans ho'
        clear hp' hf' hd' ho'
        go_wp2
        go_roundw
        case rel => exact ⟨i, j - i, l', rfl, by congr 1; omega, by omega, by omega, by omega, by omega, HPM'.out, HFN'.out, HPD'.out, HON'.out⟩
        case measure => simp [intOf]; omega
end Go.Proofs.Ytkanhjafchiikaa.Srt
