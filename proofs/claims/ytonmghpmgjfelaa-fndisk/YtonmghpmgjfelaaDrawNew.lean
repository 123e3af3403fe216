/- What the model's draw of a number of sectors answers. -/
import Derived.Test.YtonmghpmgjfelaaSrcOnly
import Derived.BigRegion
import Derived.Deep.RegionWith
namespace Go.Proofs.Ytonmghpmgjfelaa.Draw
open Go.RowKit Go.Proofs.Ytonmghpmgjfelaa.Mem

def dV (v : Int) (m : Nat) : Int := [0, 1, 64, 65, v].getD m 0
theorem dV_row (W : World) (v : Int) (m : Nat) (hm : m < 5) (T : TypeId) : (W.alloc (.cells #[.int .i64 0, .int .i64 1, .int .i64 64, .int .i64 65, .int .i64 v] T)).cell? ⟨W.heap.size, m, none⟩ = some (.int .i64 (dV v m)) := by
  match m, hm with
  | 0, _ => simp [dV]
  | 1, _ => simp [dV]
  | 2, _ => simp [dV]
  | 3, _ => simp [dV]
  | 4, _ => simp [dV]
theorem dV_arr (v : Int) (m : Nat) (hm : m < 5) : (#[.int .i64 0, .int .i64 1, .int .i64 64, .int .i64 65, .int .i64 v] : Array Value)[m]? = some (.int .i64 (dV v m)) := by
  match m, hm with
  | 0, _ => rfl
  | 1, _ => rfl
  | 2, _ => rfl
  | 3, _ => rfl
  | 4, _ => rfl
theorem dV_lst (v : Int) (m : Nat) (hm : m < 5) : ([.int .i64 0, .int .i64 1, .int .i64 64, .int .i64 65, .int .i64 v] : List Value)[m]? = some (.int .i64 (dV v m)) := by
  match m, hm with
  | 0, _ => rfl
  | 1, _ => rfl
  | 2, _ => rfl
  | 3, _ => rfl
  | 4, _ => rfl
theorem dV_get (v : Int) (m : Nat) (h : m < ([.int .i64 0, .int .i64 1, .int .i64 64, .int .i64 65, .int .i64 v] : List Value).length) : ([.int .i64 0, .int .i64 1, .int .i64 64, .int .i64 65, .int .i64 v] : List Value)[m]'h = .int .i64 (dV v m) := by
  have e := dV_lst v m h
  rw [List.getElem?_eq_getElem h] at e
  exact Option.some.inj e
theorem fived_kept {W w' : World} {g m : Nat} {v : Int} {T : TypeId} (hg : (W.alloc (.cells #[.int .i64 0, .int .i64 1, .int .i64 64, .int .i64 65, .int .i64 v] T)).grownBy w' (some g)) (hl : g ≠ W.heap.size) (hm : m < 5) : w'.cell? ⟨W.heap.size, m, none⟩ = some (.int .i64 (dV v m)) := by
  have hb := hg.block W.heap.size (by simp) (by simp; omega)
  rw [World.cell?_of_block (w := W.alloc _) (a := ⟨W.heap.size, m, none⟩) hb]
  exact dV_row W v m hm T
theorem dV_bd {v : Int} (h1 : -9223372036854775808 ≤ v) (h2 : v ≤ 9223372036854775807) (m : Nat) : -9223372036854775808 ≤ dV v m ∧ dV v m ≤ 9223372036854775807 := by
  match m with
  | 0 => simp [dV]
  | 1 => simp [dV]
  | 2 => simp [dV]
  | 3 => simp [dV]
  | 4 => exact ⟨h1, h2⟩
  | m + 5 => simp [dV]


set_option maxRecDepth 100000 in
set_option maxHeartbeats 2000000 in
theorem drawNew_any (W : World) (a : Option Addr) (len cap : Nat) (zs : List Int) (h : IsRow W a len cap zs) :
    Calls Try.prog 9 #[.slice a len cap] W fun e W' => ∃ n : Int, e = .returned (.int .i64 n) ∧ -9223372036854775808 ≤ n ∧ n ≤ 9223372036854775807 ∧ Below W.heap.size W W' := by
  have HIN : Hid (IsRow W a len cap zs) := h
  clear h
  go_enter Try.func9, Try.ntmps9
  go_wp2_with fail
  refine (source_any W a len cap zs HIN.out).mono ?_
  rintro e w1 ⟨rfl, hs1, hb1⟩
  have HS1 : Hid (Src w1 W.heap.size a len cap zs) := hs1
  clear hs1
  go_wp2_with fail
  refine (one_any w1 W.heap.size a len cap zs 3 HS1.out (by omega)).mono ?_
  rintro e w5 ⟨b, rfl, hs5, hg5⟩
  have HS5 : Hid (Src w5 W.heap.size a len cap zs) := hs5
  have hb5 := below_grown hb1 hg5 (Nat.le_refl _)
  clear hs5 hg5 hb1 HS1
  cases b
  · go_wp2_with fail
    refine (n_any w5 W.heap.size a len cap zs 20 HS5.out (by omega)).mono ?_
    rintro e w6 ⟨v, rfl, hv, hs6, hg6⟩
    have hb6 := below_grown hb5 hg6 (Nat.le_refl _)
    have hv0 := hv.1
    have hv9 := hv.2.1 (by omega)
    clear hs6 hg6 hb5 HS5 hv
    go_wp2
    go_ret
    exact ⟨v, rfl, by omega, by omega, hb6⟩
  · have HB5 : Hid (Below W.heap.size W w5) := hb5
    clear hb5
    go_wp2_with fail
    refine (edge_any w5 W.heap.size a len cap zs HS5.out).mono ?_
    rintro e w6 ⟨ve, rfl, hv1, hv2, hs6, hg6⟩
    have HB6 : Hid (Below W.heap.size W w6) := below_grown HB5.out hg6 (Nat.le_refl _)
    have hl6 := src_lt hs6
    have HS6 : Hid _ := src_below hs6 ((Below.refl w6.heap.size w6).alloc (Nat.le_refl _) (.cells #[.int .i64 0, .int .i64 1, .int .i64 64, .int .i64 65, .int .i64 ve] 2)) hl6
    clear hs6 hg6
    go_wp2_with fail
    refine (n_any _ W.heap.size a len cap zs 5 HS6.out (by omega)).mono ?_
    rintro e w7 ⟨v7, rfl, hv7, hs7, hg7⟩
    obtain ⟨m7, rfl⟩ := Int.eq_ofNat_of_zero_le hv7.1
    have hm7 : (m7 : Int) < 5 := hv7.2.1 (by omega)
    have hm8 : m7 < 5 := by omega
    have hc7 := fived_kept hg7 (by omega) hm8
    have HB7 : Hid (Below W.heap.size W w7) := below_grown (HB6.out.alloc HB6.out.size _) hg7 (Nat.le_refl _)
    have HVE : Hid (-9223372036854775808 ≤ ve ∧ ve ≤ 9223372036854775807) := ⟨hv1, hv2⟩
    have hn0 : (0 : Int) ≤ (m7 : Int) := by omega
    clear hs7 hg7 hv7
    go_wp2
    go_ret
    exact ⟨_, rfl, (dV_bd HVE.out.1 HVE.out.2 _).1, (dV_bd HVE.out.1 HVE.out.2 _).2, HB7.out⟩
end Go.Proofs.Ytonmghpmgjfelaa.Draw
