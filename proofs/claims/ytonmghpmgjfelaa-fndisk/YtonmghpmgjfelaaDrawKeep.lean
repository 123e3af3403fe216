/- A drawn list of numbers: what the model's l03Keep answers. -/
import Derived.Test.YtonmghpmgjfelaaSpecWrite
import Derived.Test.YtonmghpmgjfelaaSrcOnly
namespace Go.Proofs.Ytonmghpmgjfelaa.Disk
open Go.RowKit Go.Proofs.Ytonmghpmgjfelaa.Mem Go.Proofs.Ytonmghpmgjfelaa.Harn Go.Proofs.Ytonmghpmgjfelaa.Draw

/-- A list of numbers that owns its row. -/
def OwnI (W : World) (base : Nat) (v : Value) (l : List Int) : Prop := W.ownsRow base 2 1 v l.length (l.map (Value.int .i64))
theorem OwnI.ints {W : World} {base : Nat} {v : Value} {l : List Int} (h : OwnI W base v l) : Ints W v l := by
  have h0 := h
  rcases h.2 with ⟨rfl, hn⟩ | ⟨g, cap, cur, rfl, _⟩
  · exact ⟨none, 0, by rw [hn], fun j hj => by omega⟩
  · refine ⟨_, cap, rfl, fun j hj => ⟨g, 0, rfl, ?_⟩⟩
    rw [Nat.zero_add, h0.cellAt j (by omega)]
    simp [hj]
theorem OwnI.lt {W : World} {base : Nat} {v : Value} {l : List Int} (h : OwnI W base v l) : ∀ g, v.ownBlock = some g → base ≤ g ∧ g < W.heap.size := World.ownsRow.lt h
theorem OwnI.same {W W' : World} {base : Nat} {v : Value} {l : List Int} (h : OwnI W base v l) (hb : ∀ g, v.ownBlock = some g → W'.heap[g]? = W.heap[g]?) : OwnI W' base v l := by
  obtain ⟨h1, h2⟩ := h
  refine ⟨h1, ?_⟩
  rcases h2 with ⟨rfl, h2⟩ | ⟨g, cap, cur, rfl, e2, e3, e4⟩
  · exact .inl ⟨rfl, h2⟩
  · exact .inr ⟨g, cap, cur, rfl, e2, (hb g rfl).trans e3, e4⟩
theorem OwnI.only {p : Nat → Prop} {W W' : World} {base : Nat} {v : Value} {l : List Int} (h : OwnI W base v l) (hg : Only p W W') (hn : ∀ k, base ≤ k → ¬ p k) : OwnI W' base v l := h.same (fun g hb => hg.block g (h.lt g hb).2 (hn g (h.lt g hb).1))

theorem wp_int {w : World} {ops : Array Oper} {rest : List Oper} {o : Oper} {a : Act} {Q : Exit → Act → World → Prop} (hgd : o.guard = none) (s x : Operand)
    (ho : o.op = .call { callee := .builtin .append, args := #[s, x], argTypes := #[32, 32] }) (base b : Nat) (v : Value) (l : List Int) (y : Int) (hs : a.eval s = v) (hx : a.eval x = .slice (some ⟨b, 0, none⟩) 1 1)
    (h : OwnI w base v l) (hbase : base ≤ w.heap.size) (h0 : w.cell? ⟨b, 0, none⟩ = some (.int .i64 y)) (hn : l.length ≤ 1100000)
    (hK : ∀ g cap w', OwnI w' base (.slice (some ⟨g, 0, none⟩) (l.length + 1) cap) (l ++ [y]) → Only (fun k => base ≤ k) w w' → wpList Try.prog ops Q rest (a.put o.dst (.slice (some ⟨g, 0, none⟩) (l.length + 1) cap)) w') : wpList Try.prog ops Q (o :: rest) a w := by
  obtain ⟨i, hi0, hz0, hz1, hz2⟩ := info_parts infoI64
  obtain ⟨g', cap, w', hr, hown, hgr, _, _⟩ := run_append_lies (P := Try.prog) w 32 o.type base 2 i (.int .i64 0) 1 8 underI64s hi0 hz0 hz1 hz2 rfl (by omega) v l.length (l.map (Value.int .i64)) h ⟨b, 0, none⟩ 1 1 [.int .i64 y] rfl (fun j u hu => by
    rw [add_zero_addr]
    rcases j with _ | j
    · simp at hu; rw [h0, hu]
    · simp at hu) (by simp [Value.oneCell']) (by omega) (by unfold maxLen; omega) (by omega) hbase w.heap.size rfl
  refine wp_app hgd s x _ ho _ _ _ w' hs hx hr (hK g' cap w' ?_ ⟨hgr.os, hgr.tape, hgr.output, hgr.size, fun k hk hn => hgr.block k hk (fun e => hn (h.lt k e.symm).1)⟩)
  unfold OwnI
  rw [List.length_append, List.map_append]
  exact hown

set_option maxRecDepth 100000 in
set_option maxHeartbeats 2000000 in
theorem l03Keep_any (W : World) (g : Nat) (a : Option Addr) (len cap : Nat) (zs : List Int) (h : Draw.Src W g a len cap zs) :
    Calls Try.prog 30 #[.pointer (some ⟨g, 0, none⟩)] W fun e W' => ∃ v l, e = .returned v ∧ OwnI W' W.heap.size v l ∧ l.length ≤ 14 ∧ Draw.Src W' g a len cap zs ∧ Only (fun k => k = g) W W' := by
  have HN : Hid (∀ (m : Int) W, Draw.Src W g a len cap zs → m ≤ 100 → Calls Try.prog 24 #[.pointer (some ⟨g, 0, none⟩), .int .i64 m] W fun e W' => ∃ v : Int, e = .returned (.int .i64 v) ∧ Num m v ∧ Draw.Src W' g a len cap zs ∧ W.grownBy W' (some g)) := fun m W h hm => n_any W g a len cap zs m h (by omega)
  have hgl := src_lt h
  have hb0 : Below W.heap.size W (W.alloc (.cells #[] 2)) := (Below.refl _ _).alloc (Nat.le_refl _) _
  have HS : Hid _ := src_below h hb0 hgl
  have HO0 : Hid (OwnI (W.alloc (.cells #[] 2)) W.heap.size (.slice (some ⟨W.heap.size, 0, none⟩) 0 0) []) := World.ownsRow_lit W #[] 0 (Nat.le_refl _) (by unfold maxLen; omega) (by simp)
  have HG0 : Hid (Only (fun k => k = g) W (W.alloc (.cells #[] 2))) := Only.of_below _ hb0
  clear h hb0
  go_enter Try.func30, Try.ntmps30
  go_wp2_with fail
  refine (HN.out 14 _ HS.out (by omega)).mono ?_
  rintro e w1 ⟨v, rfl, hv, hs1, hg1⟩
  obtain ⟨k0, rfl⟩ := Int.eq_ofNat_of_zero_le hv.1
  have hk14 : (k0 : Int) < 14 := hv.2.1 (by omega)
  have h1 : Only (fun k => k = g) _ w1 := Only.of_grown hg1 rfl
  have hz1 := h1.size
  simp at hz1
  have HS1 : Hid _ := hs1
  have HG1 : Hid _ := HG0.out.trans h1
  have HO1 : Hid _ := OwnI.only HO0.out h1 (fun k h1 h2 => by omega)
  clear hs1 hg1 hv h1
  go_wp2_with fail
  go_loopw [3, 4] (fun v i wr => ∃ (k : Nat) (l : List Int), i = .int .i64 k ∧ k + l.length ≤ 14 ∧ OwnI wr W.heap.size v l ∧ Draw.Src wr g a len cap zs ∧ Only (fun k => k = g) W wr) (fun _ i _ => (intOf i).toNat)
  case atStart => exact ⟨k0, [], rfl, by simp; omega, HO1.out, HS1.out, HG1.out⟩
  case round =>
    clear HS1 HG1 HO1 HG0 HO0 HS
    obtain ⟨k, l, rfl, hkl, ho, hs, hg⟩ := hrel
    have HOK : Hid _ := ho
    have HSK : Hid _ := hs
    have HGK : Hid _ := hg
    have hWr := hg.size
    clear ho hs hg
    by_cases hk0 : 0 < k
    · go_wp2_with (first
        | (go_at_call 24; refine (HN.out 2 _ HSK.out (by omega)).mono ?_; rintro e w2 ⟨v, rfl, hv2, hs2, hg2⟩; have h2 : Only (fun k => k = g) wr w2 := Only.of_grown hg2 rfl; have hz2 := h2.size; have HS2 : Hid _ := hs2; have HG2 : Hid _ := HGK.out.trans h2; have HO2 : Hid _ := OwnI.only HOK.out h2 (fun k h1 h2 => by omega); clear hs2 hg2 h2 hv2)
        | (at_builtin; refine wp_int (by rfl) _ _ (by rfl) W.heap.size w2.heap.size u3 l v (by rfl) (by rfl) (OwnI.only HO2.out (Only.of_below (fun _ => False) ((Below.refl _ _).alloc (Nat.le_refl _) _)) (fun _ _ h => h)) (by simp; omega) (by simp) (by omega) ?_; intro gp cp w3 ho3 hq3; have hz3 := hq3.size; simp at hz3; have HO3 : Hid _ := ho3; have HQ3 : Hid _ := Only.trans (Only.of_below (fun k => W.heap.size ≤ k) ((Below.refl _ _).alloc (Nat.le_refl _) _)) hq3; clear ho3 hq3))
      go_roundw
      case rel => exact ⟨k - 1, l ++ [v], by congr 1; omega, by simp; omega, HO3.out, src_only HS2.out HQ3.out (fun k h1 h2 => by omega), only_W HG2.out HQ3.out (fun k h1 h2 h3 => by omega)⟩
      case measure => simp [intOf]; omega
    · obtain rfl : k = 0 := by omega
      go_wp2_with fail
      go_ret
      exact ⟨_, l, rfl, HOK.out, by omega, HSK.out, HGK.out⟩
end Go.Proofs.Ytonmghpmgjfelaa.Disk
