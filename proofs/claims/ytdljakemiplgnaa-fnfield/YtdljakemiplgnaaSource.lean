/- What a new source is, and what it draws at an edge. -/
import Derived.Test.YtdljakemiplgnaaDraws
namespace Go.Proofs.Ytdljakemiplgnaa.Draw
open Go.RowKit Go.Proofs.Ytdljakemiplgnaa.Mem

theorem wrap_bd (x : Int) : 0 ≤ IntKind.u64.wrap x ∧ IntKind.u64.wrap x ≤ 18446744073709551615 := by rw [IntKind.wrap_u64]; omega

theorem src_new {W wr : World} {a : Option Addr} {len cap : Nat} {zs : List Int} {mix : Int} (hin : IsRow W a len cap zs) (hb : ∀ x, a = some x → 0 < cap → x.block < W.heap.size) (hx0 : 0 ≤ mix) (hx1 : mix ≤ 18446744073709551615)
    (hrow : HasRow wr W.heap.size [.slice a len cap, .int .i64 0, .int .u64 mix, .int .i64 0] 72) (hbel : Below W.heap.size W wr) (sz : Int) (h0 : 0 ≤ sz) (h1 : sz ≤ 12) :
    Src (wr.setCell ⟨W.heap.size, 3, none⟩ (.int .i64 sz)) W.heap.size a len cap zs ∧ Below W.heap.size W (wr.setCell ⟨W.heap.size, 3, none⟩ (.int .i64 sz)) := by
  have hbl : Below W.heap.size W (wr.setCell ⟨W.heap.size, 3, none⟩ (.int .i64 sz)) := hbel.setCell (p := ⟨W.heap.size, 3, none⟩) (Nat.le_refl _) _
  refine ⟨⟨0, mix, sz, by omega, hx0, hx1, h0, h1, row_set hrow 3 _, ?_, hb⟩, hbl⟩
  rcases hin with h | ⟨x, rfl, k1, k2, k3, k4, k5⟩
  · exact .inl h
  · refine .inr ⟨x, rfl, k1, k2, k3, fun i hi => ?_, k5⟩
    have hx := hb x rfl (by omega)
    have hbk : (x.add i).block = x.block := by unfold Addr.add; split <;> rfl
    rw [hbl.cell (by rw [hbk]; exact hx)]
    exact k4 i hi

set_option maxRecDepth 100000 in
set_option maxHeartbeats 2000000 in
theorem source_any (W : World) (a : Option Addr) (len cap : Nat) (zs : List Int) (h : IsRow W a len cap zs) :
    Calls Try.prog 25 #[.slice a len cap] W fun e W' => e = .returned (.pointer (some ⟨W.heap.size, 0, none⟩)) ∧ Src W' W.heap.size a len cap zs ∧ Below W.heap.size W W' := by
  have hl := row_len h
  unfold maxLen at hl
  have HIN : Hid (IsRow W a len cap zs) := h
  have HBLK : Hid (∀ x, a = some x → 0 < cap → x.block < W.heap.size) := row_blk h
  have hcap := row_cap h
  clear h
  go_enter Try.func25, Try.ntmps25
  go_wp2
  go_loopw [4] (fun i wr => ∃ (k : Nat) (mix : Int), k ≤ len ∧ i = .int .i64 k ∧ 0 ≤ mix ∧ mix ≤ 18446744073709551615 ∧ HasRow wr W.heap.size [.slice a len cap, .int .i64 0, .int .u64 mix, .int .i64 0] 72 ∧ Below W.heap.size W wr) (fun i _ => len - (intOf i).toNat)
  case atStart => exact ⟨0, 88172645463325252, by omega, rfl, by omega, by omega, (by unfold HasRow; show (W.heap.push _)[W.heap.size]? = _; simp), (Below.refl _ _).alloc (Nat.le_refl _) _⟩
  case round =>
    obtain ⟨k, mix, hk, rfl, hx0, hx1, hrow, hbel⟩ := hrel
    have c2 := Mem.cell_of_row hrow 2
    have c3 := Mem.cell_of_row hrow 3
    simp at c2 c3
    have f2 := Mem.frozen_of_row hrow 2
    have f3 := Mem.frozen_of_row hrow 3
    have HROW : Hid (HasRow wr W.heap.size [.slice a len cap, .int .i64 0, .int .u64 mix, .int .i64 0] 72) := hrow
    clear hrow
    by_cases hlt : k < len ∧ k < 64
    · obtain ⟨b, off, ha, hcell, hz0, hz1⟩ := row_at HIN.out hlt.1
      subst ha
      have hcr : wr.cell? ⟨b, off + k, none⟩ = some (.int .u8 (zs.getD k 0)) := (hbel.cell (p := ⟨b, off + k, none⟩) (HBLK.out ⟨b, off, none⟩ rfl (by omega))).trans hcell
      have h1 : (k : Int) < (len : Int) := by omega
      have h2 : (k : Int) < 64 := by omega
      clear hcell hlt
      generalize zs.getD k 0 = zv at *
      go_wp2
      go_region
      go_wp2
      go_roundw
      case rel => exact ⟨k + 1, _, by omega, by go_num, (wrap_bd _).1, (wrap_bd _).2, row_set HROW.out 2 _, (hbel.setCell (p := ⟨W.heap.size, 2, none⟩) (Nat.le_refl _) _).drew⟩
      case measure => simp [intOf]; omega
    · have hss := set_set
      have R := fun sz h0 h1 => src_new HIN.out HBLK.out hx0 hx1 HROW.out hbel sz h0 h1
      have HR : Hid (∀ sz : Int, 0 ≤ sz → sz ≤ 12 → Src (wr.setCell ⟨W.heap.size, 3, none⟩ (.int .i64 sz)) W.heap.size a len cap zs ∧ Below W.heap.size W (wr.setCell ⟨W.heap.size, 3, none⟩ (.int .i64 sz))) := R
      clear R
      by_cases h12 : (12 : Int) < (len : Int) / 20
      all_goals
        by_cases hlt1 : (k : Int) < (len : Int)
        · have h2 : ¬ (k : Int) < 64 := by omega
          go_wp2
          go_ret
          exact ⟨rfl, HR.out _ (by omega) (by omega)⟩
        · go_wp2
          go_ret
          exact ⟨rfl, HR.out _ (by omega) (by omega)⟩

theorem underI : Try.prog.underlying 26 = some (.slice 2) := by kernel_rfl


theorem below_grown {W w w' : World} {g : Nat} (h : Below W.heap.size W w) (hg : w.grownBy w' (some g)) (hb : W.heap.size ≤ g) : Below W.heap.size W w' :=
  h.grown hg h.size (fun k hk => by injection hk with hk; omega)

/-- A text of zeros. -/
theorem zeros_text (W : World) (g n : Nat) (hg : HasRow W g (List.replicate n (.int .u8 0)) 5) :
    (convert 22 9 (.slice (some ⟨g, 0, none⟩) n n)).run Try.prog W = .ok (.string ⟨(List.replicate n 0).toArray⟩) W :=
  text_of_row _ _ _ under under8 underS W g n n (List.replicate n 0) [] (by simp) (by simpa [Lib.byteCells] using hg)

/-- A slice that came in reads as it did behind what turns nothing old. -/
theorem row_below {W W' : World} {a : Option Addr} {len cap : Nat} {zs : List Int} (h : IsRow W a len cap zs) (hg : Below W.heap.size W W') : IsRow W' a len cap zs := by
  have hb := row_blk h
  rcases h with h | ⟨x, rfl, k1, k2, k3, k4, k5⟩
  · exact .inl h
  · refine .inr ⟨x, rfl, k1, k2, k3, fun i hi => ?_, k5⟩
    have hx := hb x rfl (by omega)
    have hbk : (x.add i).block = x.block := by unfold Addr.add; split <;> rfl
    rw [hg.cell (by rw [hbk]; exact hx)]
    exact k4 i hi
end Go.Proofs.Ytdljakemiplgnaa.Draw
