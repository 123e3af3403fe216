/- What is drawn for FnField. -/
import Derived.Test.YtdljakemiplgnaaSource
import Derived.Test.YtdljakemiplgnaaOwnTwo
namespace Go.Proofs.Ytdljakemiplgnaa.Draw
open Go.RowKit Go.Proofs.Ytdljakemiplgnaa.Mem Go.Proofs.Ytdljakemiplgnaa.Gf

set_option maxRecDepth 100000 in
set_option maxHeartbeats 1000000 in
theorem drawEl_any (W : World) (g : Nat) (a : Option Addr) (len cap : Nat) (zs : List Int) (h : Src W g a len cap zs) :
    Calls Try.prog 26 #[.pointer (some ⟨g, 0, none⟩)] W fun e W' => ∃ v : Int, e = .returned (.int .i64 v) ∧ -1 ≤ v ∧ v ≤ 256 ∧ Src W' g a len cap zs ∧ W.grownBy W' (some g) := by
  have HS : Hid (Src W g a len cap zs) := h
  have hgl := src_lt h
  clear h
  go_enter Try.func26, Try.ntmps26
  go_wp2_with fail
  refine (one_any W g a len cap zs 20 HS.out (by omega)).mono ?_
  rintro e w1 ⟨b, rfl, hs1, hg1⟩
  have HS1 : Hid (Src w1 g a len cap zs) := hs1
  have HG1 : Hid (W.grownBy w1 (some g)) := hg1
  have hgl1 := src_lt hs1
  clear hs1 hg1
  cases b
  · go_wp2_with fail
    refine (n_any w1 g a len cap zs 256 HS1.out (by omega)).mono ?_
    rintro e w2 ⟨v, rfl, hv, hs2, hg2⟩
    have HS2 : Hid (Src w2 g a len cap zs) := hs2
    have HG2 : Hid (W.grownBy w2 (some g)) := Lib.grownBy_trans HG1.out hg2
    have h0 := hv.1
    have h1 := hv.2.1 (by omega)
    clear hs2 hg2 hv
    go_wp2
    go_ret
    exact ⟨v, rfl, by omega, by omega, HS2.out, HG2.out⟩
  · go_wp2_with fail
    refine (n_any _ g a len cap zs 3 (src_below HS1.out ((Below.refl w1.heap.size _).alloc (Nat.le_refl _) _) hgl1) (by omega)).mono ?_
    rintro e w2 ⟨v, rfl, hv, hs2, hg2⟩
    have HS2 : Hid (Src w2 g a len cap zs) := hs2
    obtain ⟨m, rfl⟩ := Int.eq_ofNat_of_zero_le hv.1
    have hm : (m : Int) < 3 := hv.2.1 (by omega)
    have HG : Hid (W.grownBy w2 (some g)) := Lib.grownBy_trans (Lib.grownBy_trans HG1.out (World.grownBy_alloc _ _ _)) hg2
    obtain ⟨c, hc, HC⟩ : ∃ c, w2.cell? ⟨w1.heap.size, m, none⟩ = some (.int .i64 c) ∧ Hid (-1 ≤ c ∧ c ≤ 256) := by
      have hb := hg2.block w1.heap.size (by simp) (by simp; omega)
      rw [World.cell?_of_block (w := w1.alloc _) (a := ⟨w1.heap.size, m, none⟩) hb]
      match m, hm with
      | 0, _ => exact ⟨-1, by simp, by show _ ∧ _; omega⟩
      | 1, _ => exact ⟨255, by simp, by show _ ∧ _; omega⟩
      | 2, _ => exact ⟨256, by simp, by show _ ∧ _; omega⟩
      | k + 3, h => omega
    clear hg2 hs2 hv
    go_wp2
    go_ret
    exact ⟨c, rfl, HC.out.1, HC.out.2, HS2.out, HG.out⟩

set_option maxRecDepth 100000 in
set_option maxHeartbeats 1000000 in
theorem drawMul_any (W : World) (a : Option Addr) (len cap : Nat) (zs : List Int) (h : IsRow W a len cap zs) :
    Calls Try.prog 5 #[.slice a len cap] W fun e W' => ∃ x y : Int, e = .returned (.tuple #[.int .i64 x, .int .i64 y]) ∧ -1 ≤ x ∧ x ≤ 256 ∧ -1 ≤ y ∧ y ≤ 256 ∧ Below W.heap.size W W' := by
  have HIN : Hid (IsRow W a len cap zs) := h
  clear h
  go_enter Try.func5, Try.ntmps5
  go_wp2_with fail
  refine (source_any W a len cap zs HIN.out).mono ?_
  rintro e w1 ⟨rfl, hs1, hb1⟩
  have HS1 : Hid (Src w1 W.heap.size a len cap zs) := hs1
  clear hs1
  go_wp2_with fail
  refine (drawEl_any w1 W.heap.size a len cap zs HS1.out).mono ?_
  rintro e w2 ⟨x, rfl, hx1, hx2, hs2, hg2⟩
  have HS2 : Hid (Src w2 W.heap.size a len cap zs) := hs2
  have hb2 := below_grown hb1 hg2 (Nat.le_refl _)
  clear hs2 hg2 hb1 HS1
  go_wp2_with fail
  refine (drawEl_any w2 W.heap.size a len cap zs HS2.out).mono ?_
  rintro e w3 ⟨y, rfl, hy1, hy2, hs3, hg3⟩
  have hb3 := below_grown hb2 hg3 (Nat.le_refl _)
  clear hs3 hg3 hb2 HS2
  go_wp2
  go_ret2
  exact ⟨x, y, rfl, hx1, hx2, hy1, hy2, hb3⟩

theorem drawDiv_any (W : World) (a : Option Addr) (len cap : Nat) (zs : List Int) (h : IsRow W a len cap zs) :
    Calls Try.prog 7 #[.slice a len cap] W fun e W' => ∃ x y : Int, e = .returned (.tuple #[.int .i64 x, .int .i64 y]) ∧ -1 ≤ x ∧ x ≤ 256 ∧ -1 ≤ y ∧ y ≤ 256 ∧ Below W.heap.size W W' := by
  have HIN : Hid (IsRow W a len cap zs) := h
  clear h
  go_enter Try.func7, Try.ntmps7
  go_wp2_with fail
  refine (drawMul_any W a len cap zs HIN.out).mono ?_
  rintro e w1 ⟨x, y, rfl, hx1, hx2, hy1, hy2, hb⟩
  go_wp2
  go_ret2
  exact ⟨x, y, rfl, hx1, hx2, hy1, hy2, hb⟩

set_option maxRecDepth 100000 in
theorem drawInv_any (W : World) (a : Option Addr) (len cap : Nat) (zs : List Int) (h : IsRow W a len cap zs) :
    Calls Try.prog 6 #[.slice a len cap] W fun e W' => ∃ x : Int, e = .returned (.int .i64 x) ∧ -1 ≤ x ∧ x ≤ 256 ∧ Below W.heap.size W W' := by
  have HIN : Hid (IsRow W a len cap zs) := h
  clear h
  go_enter Try.func6, Try.ntmps6
  go_wp2_with fail
  refine (source_any W a len cap zs HIN.out).mono ?_
  rintro e w1 ⟨rfl, hs1, hb1⟩
  have HS1 : Hid (Src w1 W.heap.size a len cap zs) := hs1
  clear hs1
  go_wp2_with fail
  refine (drawEl_any w1 W.heap.size a len cap zs HS1.out).mono ?_
  rintro e w2 ⟨x, rfl, hx1, hx2, hs2, hg2⟩
  have hb2 := below_grown hb1 hg2 (Nat.le_refl _)
  clear hs2 hg2 hb1 HS1
  go_wp2
  go_ret
  exact ⟨x, rfl, hx1, hx2, hb2⟩

theorem zcells_snoc (l : List Int) (x : Int) : zcells (l ++ [x]) = zcells l ++ [.int .i64 x] := by simp [zcells]
theorem zcells_len (l : List Int) : (zcells l).length = l.length := by simp [zcells]

set_option maxRecDepth 100000 in
set_option maxHeartbeats 2000000 in
theorem drawInterp_any (W : World) (a : Option Addr) (len cap : Nat) (zs : List Int) (h : IsRow W a len cap zs) :
    Calls Try.prog 8 #[.slice a len cap] W fun e W' => ∃ vx vy xs ys, ∃ t : Int, e = .returned (.tuple #[vx, vy, .int .i64 t]) ∧ Two 2 2 W' W.heap.size vx (zcells xs) vy (zcells ys) ∧ xs.length ≤ 6 ∧ ys.length ≤ 7 ∧ Below W.heap.size W W' := by
  have HIN : Hid (IsRow W a len cap zs) := h
  clear h
  go_enter Try.func8, Try.ntmps8
  go_wp2_with fail
  refine (source_any W a len cap zs HIN.out).mono ?_
  rintro e w1 ⟨rfl, hs1, hb1⟩
  have hgl1 := src_lt hs1
  have HS1 : Hid (Src ((w1.alloc (.cells #[] 2)).alloc (.cells #[] 2)) W.heap.size a len cap zs) := src_below (src_below hs1 ((Below.refl w1.heap.size _).alloc (Nat.le_refl _) _) hgl1) ((Below.refl (w1.alloc _).heap.size _).alloc (Nat.le_refl _) _) (by simp; omega)
  have HT1 : Hid (Two 2 2 ((w1.alloc (.cells #[] 2)).alloc (.cells #[] 2)) (W.heap.size + 1) (.slice (some ⟨w1.heap.size, 0, none⟩) 0 0) [] (.slice (some ⟨w1.heap.size + 1, 0, none⟩) 0 0) []) := two_empty _ _ w1 _ (by omega)
  have HB1 : Hid (Below W.heap.size W ((w1.alloc (.cells #[] 2)).alloc (.cells #[] 2))) := balloc (balloc hb1 _) _
  clear hs1 hb1
  go_wp2_with fail
  refine (n_any _ W.heap.size a len cap zs 3 HS1.out (by omega)).mono ?_
  rintro e w2 ⟨x0, rfl, hv, hs2, hg2⟩
  have hx0 := hv.1
  have hx1 := hv.2.1 (by omega)
  have HS2 : Hid (Src w2 W.heap.size a len cap zs) := hs2
  have HT2 : Hid _ := Two.grown HT1.out hg2 (by omega)
  have HB2 : Hid (Below W.heap.size W w2) := below_grown HB1.out hg2 (Nat.le_refl _)
  clear hv hs2 hg2 HS1 HT1 HB1
  go_wp2_with fail
  refine (n_any _ W.heap.size a len cap zs 6 HS2.out (by omega)).mono ?_
  rintro e w3 ⟨k0, rfl, hv, hs3, hg3⟩
  have hk0 := hv.1
  have hk1 := hv.2.1 (by omega)
  have HS3 : Hid (Src w3 W.heap.size a len cap zs) := hs3
  have HT3 : Hid _ := Two.grown HT2.out hg3 (by omega)
  have HB3 : Hid (Below W.heap.size W w3) := below_grown HB2.out hg3 (Nat.le_refl _)
  clear hv hs3 hg3 HS2 HT2 HB2
  obtain ⟨n, rfl⟩ := Int.eq_ofNat_of_zero_le hk0
  go_wp2
  go_loopw [6, 7, 8, 9] (fun vx vy x k wr => ∃ (m : Nat) (xs ys : List Int) (xv : Int), k = .int .i64 m ∧ x = .int .i64 xv ∧ 0 ≤ xv ∧ xv ≤ 3 + 4 * (xs.length : Int) ∧ xs.length + m = n ∧ ys.length = xs.length ∧ Two 2 2 wr (W.heap.size + 1) vx (zcells xs) vy (zcells ys) ∧ Src wr W.heap.size a len cap zs ∧ Below W.heap.size W wr) (fun _ _ _ k _ => (intOf k).toNat)
  case atStart => exact ⟨n, [], [], x0, rfl, rfl, hx0, by simp; omega, by simp, rfl, HT3.out, HS3.out, HB3.out⟩
  case round =>
    obtain ⟨m, xs, ys, xv, rfl, rfl, hxv, hxv2, hxm, hyl, ht, hs, hb⟩ := hrel
    have HTR : Hid (Two 2 2 wr (W.heap.size + 1) u6 (zcells xs) u7 (zcells ys)) := ht
    have HSR : Hid (Src wr W.heap.size a len cap zs) := hs
    have HBR : Hid (Below W.heap.size W wr) := hb
    have HYL : Hid (ys.length = xs.length) := hyl
    have HXM : Hid (xs.length + m = n) := hxm
    have hgl := src_lt hs
    have hmn : (m : Int) ≤ 5 := by omega
    have hxl : xs.length ≤ 5 := by omega
    clear HT3 HS3 HB3 ht hs hb hyl hxm
    by_cases hm : 0 < m
    · go_wp2_with (at_builtin; refine wp_two (by rfl) _ _ _ _ 2 (.int .i64 0) 8 (by rfl) Harn.underI64s infoI64' rfl (by omega) (W.heap.size + 1) wr.heap.size u6 u7 (zcells xs) (zcells ys) (.int .i64 xv) (by rfl) (by rfl) (HTR.out.alloc _) (size_new (by omega) _) (cell_new _ _ _) rfl (by rw [zcells_len]; omega) ?_; intro g1 c1 w4 ht4 hb4 hz4; have HT4 : Hid _ := ht4; have HS4 : Hid (Src w4 W.heap.size a len cap zs) := src_below (src_below HSR.out ((Below.refl wr.heap.size _).alloc (Nat.le_refl _) _) hgl) hb4 (by omega); have HB4 : Hid (Below W.heap.size W w4) := (balloc HBR.out _).trans (hb4.mono (by omega)); clear ht4 hb4)
      rw [zcells_len] at *
      go_wp2_with fail
      refine (drawEl_any w4 W.heap.size a len cap zs HS4.out).mono ?_
      rintro e w5 ⟨y, rfl, hy1, hy2, hs5, hg5⟩
      have HS5 : Hid (Src w5 W.heap.size a len cap zs) := hs5
      have HT5 : Hid _ := Two.grown HT4.out hg5 (by omega)
      have HB5 : Hid (Below W.heap.size W w5) := below_grown HB4.out hg5 (Nat.le_refl _)
      have hgl5 := src_lt hs5
      have hz5 := hg5.size
      clear hs5 hg5 HS4 HT4 HB4
      go_wp2_with (at_builtin; refine wp_two (by rfl) _ _ _ _ 2 (.int .i64 0) 8 (by rfl) Harn.underI64s infoI64' rfl (by omega) (W.heap.size + 1) w5.heap.size u7 _ (zcells ys) _ (.int .i64 y) (by rfl) (by rfl) (HT5.out.swap.alloc _) (size_new (by omega) _) (cell_new _ _ _) rfl (by rw [zcells_len]; have := HYL.out; omega) ?_; intro g2 c2 w6 ht6 hb6 hz6; have HT6 : Hid _ := ht6.swap; have HS6 : Hid (Src w6 W.heap.size a len cap zs) := src_below (src_below HS5.out ((Below.refl w5.heap.size _).alloc (Nat.le_refl _) _) hgl5) hb6 (by omega); have HB6 : Hid (Below W.heap.size W w6) := (balloc HB5.out _).trans (hb6.mono (by omega)); clear ht6 hb6)
      go_wp2_with fail
      refine (n_any _ W.heap.size a len cap zs 4 HS6.out (by omega)).mono ?_
      rintro e w7 ⟨d, rfl, hv, hs7, hg7⟩
      have hd0 := hv.1
      have hd1 := hv.2.1 (by omega)
      have HS7 : Hid (Src w7 W.heap.size a len cap zs) := hs7
      have HT7 : Hid _ := Two.grown HT6.out hg7 (by omega)
      have HB7 : Hid (Below W.heap.size W w7) := below_grown HB6.out hg7 (Nat.le_refl _)
      clear hv hs7 hg7 HS6 HT6 HB6
      go_wp2
      go_roundw
      case rel => exact ⟨m - 1, xs ++ [xv], ys ++ [y], xv + d, by congr 1; omega, rfl, by omega, by simp; omega, by have := HXM.out; simp; omega, by have := HYL.out; simp; omega, by rw [zcells_snoc, zcells_snoc]; exact HT7.out, HS7.out, HB7.out⟩
      case measure => simp [intOf]; omega
    · obtain rfl : m = 0 := by omega
      go_wp2_with fail
      refine (one_any wr W.heap.size a len cap zs 10 HSR.out (by omega)).mono ?_
      rintro e w4 ⟨b, rfl, hs4, hg4⟩
      have HS4 : Hid (Src w4 W.heap.size a len cap zs) := hs4
      have HT4 : Hid _ := Two.grown HTR.out hg4 (by omega)
      have HB4 : Hid (Below W.heap.size W w4) := below_grown HBR.out hg4 (Nat.le_refl _)
      have hgl4 := src_lt hs4
      clear hs4 hg4 HSR HTR HBR
      cases b
      · go_wp2_with fail
        refine (n_any _ W.heap.size a len cap zs 12 HS4.out (by omega)).mono ?_
        rintro e w7 ⟨d, rfl, hv, hs7, hg7⟩
        have HT7 : Hid (Two 2 2 w7 (W.heap.size + 1) u6 (zcells xs) u7 (zcells ys)) := Two.grown HT4.out hg7 (by omega)
        have HB7 : Hid (Below W.heap.size W w7) := below_grown HB4.out hg7 (Nat.le_refl _)
        clear hv hs7 hg7 HT4 HS4 HB4
        go_wp2
        go_ret3
        exact ⟨_, _, xs, ys, d, rfl, ⟨HT7.out.l.below (Below.refl _ _) (by omega), HT7.out.r.below (Below.refl _ _) (by omega), HT7.out.far⟩, by omega, by have := HYL.out; omega, HB7.out⟩
      · go_wp2_with (at_builtin; refine wp_two (by rfl) _ _ _ _ 2 (.int .i64 0) 8 (by rfl) Harn.underI64s infoI64' rfl (by omega) (W.heap.size + 1) w4.heap.size u7 _ (zcells ys) _ (.int .i64 0) (by rfl) (by rfl) (HT4.out.swap.alloc _) (size_new (by omega) _) (cell_new _ _ _) rfl (by rw [zcells_len]; have := HYL.out; omega) ?_; intro g2 c2 w6 ht6 hb6 hz6; have HT6 : Hid _ := ht6.swap; have HS6 : Hid (Src w6 W.heap.size a len cap zs) := src_below (src_below HS4.out ((Below.refl w4.heap.size _).alloc (Nat.le_refl _) _) hgl4) hb6 (by omega); have HB6 : Hid (Below W.heap.size W w6) := (balloc HB4.out _).trans (hb6.mono (by omega)); clear ht6 hb6)
        go_wp2_with fail
        refine (n_any _ W.heap.size a len cap zs 12 HS6.out (by omega)).mono ?_
        rintro e w7 ⟨d, rfl, hv, hs7, hg7⟩
        have HT7 : Hid _ := Two.grown HT6.out hg7 (by omega)
        have HB7 : Hid (Below W.heap.size W w7) := below_grown HB6.out hg7 (Nat.le_refl _)
        clear hv hs7 hg7 HT6 HS6 HB6
        go_wp2
        go_ret3
        exact ⟨_, _, xs, ys ++ [0], d, rfl, by rw [zcells_snoc]; exact ⟨HT7.out.l.below (Below.refl _ _) (by omega), HT7.out.r.below (Below.refl _ _) (by omega), HT7.out.far⟩, by omega, by have := HYL.out; simp; omega, HB7.out⟩
end Go.Proofs.Ytdljakemiplgnaa.Draw
