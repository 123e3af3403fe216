/- What the program's lineRight answers. -/
import Derived.Test.YtdljakemiplgnaaLineOk
namespace Go.Proofs.Ytdljakemiplgnaa.Gf
open Go.RowKit Go.Proofs.Ytdljakemiplgnaa.Mem

set_option maxRecDepth 100000 in
set_option maxHeartbeats 1000000 in
theorem index_any (a : Option Addr) (n cap : Nat) (xs : List Int) (x : Int) (w : World) (hc : ∀ j (_ : j < n), ∃ b o, a = some ⟨b, o, none⟩ ∧ w.cell? ⟨b, o + j, none⟩ = some (.int .i64 (xs.getD j 0))) (hn : n ≤ 1100000) :
    Calls Try.prog 63 #[.slice a n cap, .int .i64 x] w fun e w' => ∃ r, e = .returned (.int .i64 r) ∧ w = w' ∧ ((0 ≤ r ∧ ∃ j, j < n ∧ xs.getD j 0 = x) ∨ (r = -1 ∧ ∀ j, j < n → xs.getD j 0 ≠ x)) := by
  have HC : Hid (∀ j (_ : j < n), ∃ b o, a = some ⟨b, o, none⟩ ∧ w.cell? ⟨b, o + j, none⟩ = some (.int .i64 (xs.getD j 0))) := hc
  clear hc
  go_enter Try.func63, Try.ntmps63
  go_wp2
  go_loop [8] (fun i => ∃ k : Nat, k ≤ n ∧ i = .int .i64 k ∧ (∀ j, j < k → xs.getD j 0 ≠ x)) (fun i => n - (intOf i).toNat)
  case atStart => exact ⟨0, by omega, rfl, fun j hj => by omega⟩
  case round =>
    obtain ⟨k, hk, rfl, hne⟩ := hrel
    have HN : Hid (∀ j, j < k → xs.getD j 0 ≠ x) := hne
    clear hne
    by_cases hlt : k < n
    · obtain ⟨b, o, rfl, c1⟩ := HC.out k hlt
      have p1 : (k : Int) < (n : Int) := by omega
      generalize hy : xs.getD k 0 = y at *
      have HY : Hid (xs.getD k 0 = y) := hy
      clear hy
      by_cases he : x = y
      · have HB : Hid (xs.getD k 0 = x) := by show _ = _; rw [HY.out, he]
        have hb : (x == y) = true := by simpa using he
        clear he
        go_wp2
        go_ret
        exact ⟨_, rfl, rfl, .inl ⟨by omega, k, hlt, HB.out⟩⟩
      · have hb : (x == y) = false := by simpa using he
        have HB : Hid (∀ j, j < k + 1 → xs.getD j 0 ≠ x) := fun j hj => by
          by_cases e : j = k
          · subst e; rw [HY.out]; exact fun e2 => he e2.symm
          · exact HN.out j (by omega)
        clear he
        go_wp2
        go_round
        case rel => exact ⟨k + 1, by omega, by go_num, HB.out⟩
        case measure => simp [intOf]; omega
    · obtain rfl : k = n := by omega
      go_wp2
      go_ret
      exact ⟨_, rfl, rfl, .inr ⟨rfl, HN.out⟩⟩

theorem contains_any (a : Option Addr) (n cap : Nat) (xs : List Int) (x : Int) (w : World) (hc : ∀ j (_ : j < n), ∃ b o, a = some ⟨b, o, none⟩ ∧ w.cell? ⟨b, o + j, none⟩ = some (.int .i64 (xs.getD j 0))) (hn : n ≤ 1100000) :
    Calls Try.prog 52 #[.slice a n cap, .int .i64 x] w fun e w' => ∃ r, e = .returned (.bool r) ∧ w = w' ∧ ((r = true ∧ ∃ j, j < n ∧ xs.getD j 0 = x) ∨ (r = false ∧ ∀ j, j < n → xs.getD j 0 ≠ x)) := by
  have HI : Hid (Calls Try.prog 63 #[.slice a n cap, .int .i64 x] w fun e w' => ∃ r, e = .returned (.int .i64 r) ∧ w = w' ∧ ((0 ≤ r ∧ ∃ j, j < n ∧ xs.getD j 0 = x) ∨ (r = -1 ∧ ∀ j, j < n → xs.getD j 0 ≠ x))) := index_any a n cap xs x w hc hn
  clear hc
  go_enter Try.func52, Try.ntmps52
  go_wp2_with (go_at_call 63; refine (HI.out).mono ?_; rintro e w' ⟨r, rfl, rfl, ⟨hr, hj⟩ | ⟨rfl, hj⟩⟩)
  · have HJ : Hid _ := hj
    clear hj
    go_wp2
    go_ret
    exact ⟨_, rfl, rfl, .inl ⟨by simp, HJ.out⟩⟩
  · have HJ : Hid _ := hj
    clear hj
    go_wp2
    go_ret
    exact ⟨_, rfl, rfl, .inr ⟨rfl, HJ.out⟩⟩

theorem isEl2_any (a : Int) (w : World) : Calls Try.prog 32 #[.int .i64 a] w fun e w' => e = .returned (.bool (el a)) ∧ w = w' := (isEl_any a w).mono fun _ _ h => ⟨h.1, h.2.symm⟩
theorem lineOk_yes {xs ys : List Int} {t : Int} (hh : headOk xs ys t = true) (h : ∀ i, i < xs.length → okAt xs ys i = true) : lineOk xs ys t = true := by unfold lineOk; rw [hh, okAll_yes h]; rfl
theorem lineOk_no {xs ys : List Int} {t : Int} {i : Nat} (hi : i < xs.length) (h : okAt xs ys i = false) : lineOk xs ys t = false := by unfold lineOk; rw [okAll_no hi h]; simp
theorem lineOk_head {xs ys : List Int} {t : Int} (h : headOk xs ys t = false) : lineOk xs ys t = false := by unfold lineOk; rw [h]; rfl

set_option maxRecDepth 100000 in
set_option maxHeartbeats 1000000 in
theorem lineRight_any (vx vy : Value) (xs ys : List Int) (t : Int) (w : World) (hx : Harn.Ints w vx xs) (hy : Harn.Ints w vy ys) (hcap : ∀ a n c, vx = .slice a n c → n ≤ c) :
    Calls Try.prog 29 #[vx, vy, .int .i64 t] w fun e w' => e = .returned (.bool (lineOk xs ys t)) ∧ w = w' := by
  obtain ⟨a1, cap1, rfl, hc1⟩ := hx
  obtain ⟨a2, cap2, rfl, hc2⟩ := hy
  have hcap1 : xs.length ≤ cap1 := hcap _ _ _ rfl
  clear hcap
  have HC1 : Hid (∀ j (h : j < xs.length), ∃ b o, a1 = some ⟨b, o, none⟩ ∧ w.cell? ⟨b, o + j, none⟩ = some (.int .i64 xs[j])) := hc1
  have HC2 : Hid (∀ j (h : j < ys.length), ∃ b o, a2 = some ⟨b, o, none⟩ ∧ w.cell? ⟨b, o + j, none⟩ = some (.int .i64 ys[j])) := hc2
  clear hc1 hc2
  by_cases hh : headOk xs ys t = true
  · obtain ⟨g1, g2, g3, g4⟩ := headOk_parts hh
    have HNO : Hid (∀ i, i < xs.length → okAt xs ys i = false → lineOk xs ys t = false) := fun i hi h => lineOk_no hi h
    have HYES : Hid ((∀ i, i < xs.length → okAt xs ys i = true) → lineOk xs ys t = true) := fun h => lineOk_yes hh h
    have hne : ((ys.length : Int) != (xs.length : Int)) = false := by rw [bne_eq_false_iff_eq]; omega
    have HG3 : Hid (ys.length = xs.length) := g3
    generalize lineOk xs ys t = z at *
    clear hh g3
    go_enter Try.func29, Try.ntmps29
    go_wp2_with (first | (go_at_call 32; refine (isEl2_any _ _).mono ?_; rintro e w' ⟨rfl, rfl⟩))
    go_loop [31] (fun i => ∃ k : Nat, k ≤ xs.length ∧ i = .int .i64 k ∧ (∀ i, i < k → okAt xs ys i = true)) (fun i => xs.length - (intOf i).toNat)
    case atStart => exact ⟨0, by omega, rfl, fun i hi => by omega⟩
    case round =>
      obtain ⟨k, hk, rfl, hok⟩ := hrel
      have HOK : Hid (∀ i, i < k → okAt xs ys i = true) := hok
      clear hok
      by_cases hlt : k < xs.length
      · obtain ⟨b1, o1, rfl, c1⟩ := HC1.out k hlt
        obtain ⟨b2, o2, rfl, c2⟩ := HC2.out k (by have := HG3.out; omega)
        have HE1 : Hid (xs.getD k 0 = xs[k]) := getZ hlt
        have HE2 : Hid (ys.getD k 0 = ys[k]'(by have := HG3.out; omega)) := getZ (by have := HG3.out; omega)
        have p1 : (k : Int) < (xs.length : Int) := by omega
        have p2 : (k : Int) < (ys.length : Int) := by have := HG3.out; omega
        have p5 : (k : Int) ≤ (cap1 : Int) := by omega
        have p6 : k ≤ cap1 := by omega
        have p7 : ¬ cap1 = 0 := by omega
        have HCT : Hid (∀ x cap, Calls Try.prog 52 #[.slice (some ⟨b1, o1, none⟩) k cap, .int .i64 x] w fun e w' => ∃ r, e = .returned (.bool r) ∧ w = w' ∧ ((r = true ∧ ∃ j, j < k ∧ xs.getD j 0 = x) ∨ (r = false ∧ ∀ j, j < k → xs.getD j 0 ≠ x))) := by
          rintro x cap
          refine contains_any _ k cap xs x _ (fun j hj => ?_) (by omega)
          obtain ⟨b', o', h1, h2⟩ := HC1.out j (by omega)
          exact ⟨b', o', h1, by rw [getZ (by omega)]; exact h2⟩
        generalize ys[k]'(by have := HG3.out; omega) = y at *
        generalize xs[k] = x at *
        by_cases e1 : el x = true
        · by_cases e2 : el y = true
          · go_wp2_with (first | (go_at_call 32; refine (isEl2_any _ _).mono ?_; rintro e w' ⟨rfl, rfl⟩) | (go_at_call 52; refine (HCT.out _ _).mono ?_; rintro e w' ⟨r, rfl, rfl, ⟨rfl, hj⟩ | ⟨rfl, hj⟩⟩))
            · have HJ : Hid _ := hj
              clear hj
              go_wp2
              go_ret
              obtain ⟨j, hj, hje⟩ := HJ.out
              have HZ := HNO.out k hlt (okAt_no3 hj (by rw [HE1.out]; exact hje))
              rw [HZ]
              exact ⟨rfl, rfl⟩
            · have HOK2 : Hid (∀ i, i < k + 1 → okAt xs ys i = true) := fun i hi => by
                by_cases e : i = k
                · subst e; exact okAt_yes (by rw [HE1.out]; exact e1) (by rw [HE2.out]; exact e2) (fun j hj' => by rw [HE1.out]; exact hj j hj')
                · exact HOK.out i (by omega)
              clear hj
              go_wp2
              go_round
              case rel => exact ⟨k + 1, by omega, by go_num, HOK2.out⟩
              case measure => simp [intOf]; omega
          · have e2' : el y = false := by simpa using e2
            have HZ : Hid (z = false) := HNO.out k hlt (okAt_no2 (by rw [HE2.out]; exact e2'))
            clear e2
            go_wp2_with (first | (go_at_call 32; refine (isEl2_any _ _).mono ?_; rintro e w' ⟨rfl, rfl⟩))
            go_ret
            rw [HZ.out]
            exact ⟨rfl, rfl⟩
        · have e1' : el x = false := by simpa using e1
          have HZ : Hid (z = false) := HNO.out k hlt (okAt_no1 (by rw [HE1.out]; exact e1'))
          clear e1
          go_wp2_with (first | (go_at_call 32; refine (isEl2_any _ _).mono ?_; rintro e w' ⟨rfl, rfl⟩))
          go_ret
          rw [HZ.out]
          exact ⟨rfl, rfl⟩
      · obtain rfl : k = xs.length := by omega
        have HZ : Hid (z = true) := HYES.out HOK.out
        go_wp2
        go_ret
        rw [HZ.out]
        exact ⟨rfl, rfl⟩
  · have hh' : headOk xs ys t = false := by simpa using hh
    have HZ : Hid (lineOk xs ys t = false) := lineOk_head hh'
    generalize lineOk xs ys t = z at *
    have HN := headOk_not hh'
    clear hh hh' HC1 HC2
    rcases HN with h | ⟨h, h'⟩ | ⟨h, h', h''⟩ | ⟨h, h', h'', h3⟩
    · have p1 : (xs.length : Int) < 1 := by omega
      go_enter Try.func29, Try.ntmps29
      go_wp2
      go_ret
      rw [HZ.out]; exact ⟨rfl, rfl⟩
    · have p1 : ¬ (xs.length : Int) < 1 := by omega
      have p2 : (10 : Int) < (xs.length : Int) := by omega
      go_enter Try.func29, Try.ntmps29
      go_wp2
      go_ret
      rw [HZ.out]; exact ⟨rfl, rfl⟩
    · have p1 : ¬ (xs.length : Int) < 1 := by omega
      have p2 : ¬ (10 : Int) < (xs.length : Int) := by omega
      have p3 : ((ys.length : Int) != (xs.length : Int)) = true := by rw [bne_iff_ne]; omega
      clear h''
      go_enter Try.func29, Try.ntmps29
      go_wp2
      go_ret
      rw [HZ.out]; exact ⟨rfl, rfl⟩
    · have p1 : ¬ (xs.length : Int) < 1 := by omega
      have p2 : ¬ (10 : Int) < (xs.length : Int) := by omega
      have p3 : ((ys.length : Int) != (xs.length : Int)) = false := by rw [bne_eq_false_iff_eq]; omega
      clear h''
      go_enter Try.func29, Try.ntmps29
      go_wp2_with (go_at_call 32; refine (isEl2_any _ _).mono ?_; rintro e w' ⟨rfl, rfl⟩)
      go_ret
      rw [HZ.out]; exact ⟨rfl, rfl⟩
end Go.Proofs.Ytdljakemiplgnaa.Gf
