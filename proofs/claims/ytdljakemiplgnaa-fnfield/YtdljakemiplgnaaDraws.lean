/- What the drawing functions of the model give: numbers within their bounds, whatever the bytes that they draw from. -/
import Derived.Test.YtdljakemiplgnaaRows
import Derived.Test.YtdljakemiplgnaaOwnBytes
import Derived.BigRegion
import Derived.WalkSpells
import Derived.Lib.BufferOwn
import Derived.OpenShut
namespace Go.Proofs.Ytdljakemiplgnaa.Draw
open Go.RowKit Go.Proofs.Ytdljakemiplgnaa.Mem

/-- A slice of bytes that came in. -/
def IsRow (w : World) (a : Option Addr) (len cap : Nat) (zs : List Int) : Prop :=
  (a = none ∧ len = 0 ∧ cap = 0 ∧ zs = []) ∨
  ∃ x, a = some x ∧ len ≤ cap ∧ cap ≤ maxLen ∧ zs.length = cap ∧ (∀ i, i < zs.length → w.cell? (x.add i) = some (.int .u8 (zs.getD i 0))) ∧ ∀ n ∈ zs, (Lit.int .u8 n).wf = true

/-- Block g is a source that draws from the bytes at a. -/
def Src (W : World) (g : Nat) (a : Option Addr) (len cap : Nat) (zs : List Int) : Prop :=
  ∃ (p : Nat) (mix size : Int), p ≤ len ∧ 0 ≤ mix ∧ mix ≤ 18446744073709551615 ∧ 0 ≤ size ∧ size ≤ 12 ∧ HasRow W g [.slice a len cap, .int .i64 p, .int .u64 mix, .int .i64 size] 72 ∧ IsRow W a len cap zs ∧ ∀ x, a = some x → 0 < cap → x.block < g

theorem row_at {w : World} {a : Option Addr} {len cap : Nat} {zs : List Int} (h : IsRow w a len cap zs) {j : Nat} (hj : j < len) :
    ∃ b off, a = some ⟨b, off, none⟩ ∧ w.cell? ⟨b, off + j, none⟩ = some (.int .u8 (zs.getD j 0)) ∧ 0 ≤ zs.getD j 0 ∧ zs.getD j 0 ≤ 255 := by
  rcases h with ⟨_, h0, _, _⟩ | ⟨x, rfl, hl, hm, hz, hcell, hwz⟩
  · omega
  · obtain ⟨b, off, spot⟩ := x
    have hc0 := hcell 0 (by omega)
    have hspot : spot = none := by simpa [Addr.add] using World.cell?_spot hc0
    subst hspot
    have hcj := hcell j (by omega)
    have ha : (⟨b, off, none⟩ : Addr).add j = ⟨b, off + j, none⟩ := by unfold Addr.add; split <;> simp_all
    rw [ha] at hcj
    have hmem : zs.getD j 0 ∈ zs := by
      have hj' : j < zs.length := by omega
      simp [List.getD, hj']
    have hb := bounds_u8 (hwz _ hmem)
    exact ⟨b, off, rfl, hcj, hb.1, hb.2⟩

theorem row_len {w : World} {a : Option Addr} {len cap : Nat} {zs : List Int} (h : IsRow w a len cap zs) : len ≤ maxLen := by
  rcases h with ⟨_, h0, _, _⟩ | ⟨x, _, hl, hm, _⟩
  · unfold maxLen; omega
  · omega

theorem row_cap {w : World} {a : Option Addr} {len cap : Nat} {zs : List Int} (h : IsRow w a len cap zs) : len ≤ cap := by
  rcases h with ⟨_, h0, h1, _⟩ | ⟨x, _, hl, _⟩ <;> omega

/-- Where it has a cell, its block is there. -/
theorem row_blk {w : World} {a : Option Addr} {len cap : Nat} {zs : List Int} (h : IsRow w a len cap zs) : ∀ x, a = some x → 0 < cap → x.block < w.heap.size := by
  intro x hx hc
  rcases h with ⟨h0, _⟩ | ⟨y, h0, hl, hm, hz, hcell, hwz⟩
  · rw [hx] at h0; cases h0
  · rw [hx] at h0
    obtain rfl := Option.some.inj h0
    have h1 := hcell 0 (by omega)
    have e : x.add 0 = x := by unfold Addr.add; simp
    rw [e] at h1
    rcases Nat.lt_or_ge x.block w.heap.size with h | h
    · exact h
    · simp [World.cell?, Array.getElem?_eq_none h] at h1

theorem bits_bd (op : BinOp) (x y : Int) : 0 ≤ bits op .u64 x y ∧ bits op .u64 x y ≤ 18446744073709551615 := bounds_u64 (wf_bits op .u64 x y)

theorem set_set (w : World) (b o : Nat) (v v' : Value) : (w.setCell ⟨b, o, none⟩ v).setCell ⟨b, o, none⟩ v' = w.setCell ⟨b, o, none⟩ v' := by
  have e : ∀ (h : Array Obj) (f k : Obj → Obj), (h.modify b f).modify b k = h.modify b (k ∘ f) := by
    intro h f k
    apply Array.ext
    · simp
    · intro i h1 h2
      simp only [Array.getElem_modify]
      split <;> simp_all
  unfold World.setCell
  simp only [e]
  congr 2
  funext x
  cases x <;> simp

/-- A slice that came in reads as it did. -/
theorem row_kept {W W' : World} {g : Nat} {a : Option Addr} {len cap : Nat} {zs : List Int} (h : IsRow W a len cap zs) (hg : W.grownBy W' (some g)) (hb : ∀ x, a = some x → 0 < cap → x.block < g) (hlt : g < W.heap.size) : IsRow W' a len cap zs := by
  rcases h with h | ⟨x, rfl, h1, h2, h3, h4, h5⟩
  · exact .inl h
  · refine .inr ⟨x, rfl, h1, h2, h3, fun i hi => ?_, h5⟩
    have hx := hb x rfl (by omega)
    have hbk : (x.add i).block = x.block := by unfold Addr.add; split <;> rfl
    rw [World.cell?_of_block (w := W) (hg.block _ (by rw [hbk]; omega) (by rw [hbk]; simp; omega))]
    exact h4 i hi

theorem row_lt {W : World} {g : Nat} {cs : List Value} {e : TypeId} (h : HasRow W g cs e) : g < W.heap.size := (Array.getElem?_eq_some_iff.1 h).1

/-- The source behind the writing of its second and third fields. -/
theorem src_set {W : World} {g : Nat} {a : Option Addr} {len cap : Nat} {zs : List Int} {p : Nat} {mix size : Int} (hs0 : 0 ≤ size) (hs1 : size ≤ 12) (hrow : HasRow W g [.slice a len cap, .int .i64 p, .int .u64 mix, .int .i64 size] 72)
    (hin : IsRow W a len cap zs) (hb : ∀ x, a = some x → 0 < cap → x.block < g) (q : Nat) (hq : q ≤ len) (m : Int) (hm : 0 ≤ m ∧ m ≤ 18446744073709551615) :
    Src ((W.setCell ⟨g, 1, none⟩ (.int .i64 q)).setCell ⟨g, 2, none⟩ (.int .u64 m)) g a len cap zs ∧ W.grownBy ((W.setCell ⟨g, 1, none⟩ (.int .i64 q)).setCell ⟨g, 2, none⟩ (.int .u64 m)) (some g) := by
  have hg : W.grownBy ((W.setCell ⟨g, 1, none⟩ (.int .i64 q)).setCell ⟨g, 2, none⟩ (.int .u64 m)) (some g) := Lib.grownBy_setB (Lib.grownBy_setCell W g 1 _) 2 _
  exact ⟨⟨q, m, size, hq, hm.1, hm.2, hs0, hs1, row_set (row_set hrow 1 _) 2 _, row_kept hin hg hb (row_lt hrow), hb⟩, hg⟩

theorem src_set2 {W : World} {g : Nat} {a : Option Addr} {len cap : Nat} {zs : List Int} {p : Nat} {mix size : Int} (hs0 : 0 ≤ size) (hs1 : size ≤ 12) (hrow : HasRow W g [.slice a len cap, .int .i64 p, .int .u64 mix, .int .i64 size] 72)
    (hin : IsRow W a len cap zs) (hb : ∀ x, a = some x → 0 < cap → x.block < g) (hq : p ≤ len) (m : Int) (hm : 0 ≤ m ∧ m ≤ 18446744073709551615) :
    Src (W.setCell ⟨g, 2, none⟩ (.int .u64 m)) g a len cap zs ∧ W.grownBy (W.setCell ⟨g, 2, none⟩ (.int .u64 m)) (some g) := by
  have hg : W.grownBy (W.setCell ⟨g, 2, none⟩ (.int .u64 m)) (some g) := Lib.grownBy_setCell W g 2 _
  exact ⟨⟨p, m, size, hq, hm.1, hm.2, hs0, hs1, row_set hrow 2 _, row_kept hin hg hb (row_lt hrow), hb⟩, hg⟩

theorem src_drew {W : World} {g : Nat} {a : Option Addr} {len cap : Nat} {zs : List Int} (h : Src W g a len cap zs) : Src W.drew g a len cap zs := h
theorem grown_drew {w W : World} {r : Option Nat} (h : w.grownBy W r) : w.grownBy W.drew r := ⟨h.os, h.tape, h.output, h.size, h.block⟩

theorem wrap_nonneg (x : Int) : 0 ≤ IntKind.u64.wrap x := by rw [IntKind.wrap_u64]; omega
theorem val_bd {y most : Int} (h0 : 0 ≤ y) (h : 2 ≤ most) (h2 : most ≤ 9223372036854775807) : 0 ≤ wrap64 (y.tmod most) ∧ wrap64 (y.tmod most) < most := by
  rw [Int.tmod_eq_emod_of_nonneg h0]
  have h1 := Int.emod_nonneg y (by omega : most ≠ 0)
  have h3 := Int.emod_lt_of_pos y (by omega : 0 < most)
  unfold wrap64
  omega

theorem rem_bd {x most : Int} (h : 2 ≤ most) : 0 ≤ x % most ∧ x % most < most := ⟨Int.emod_nonneg _ (by omega), Int.emod_lt_of_pos _ (by omega)⟩

set_option maxRecDepth 100000 in
set_option maxHeartbeats 2000000 in
theorem n_in (W : World) (g : Nat) (a : Option Addr) (len cap : Nat) (zs : List Int) (most : Int) (h : Src W g a len cap zs) (hm : 2 ≤ most) (hm2 : most ≤ 9223372036854775807) :
    Calls Try.prog 27 #[.pointer (some ⟨g, 0, none⟩), .int .i64 most] W fun e W' => ∃ v : Int, e = .returned (.int .i64 v) ∧ 0 ≤ v ∧ v < most ∧ Src W' g a len cap zs ∧ W.grownBy W' (some g) := by
  obtain ⟨p, mix, size, hp, hx0, hx1, hs0, hs1, hrow, hin, hblk⟩ := h
  have c0 := Mem.cell_of_row hrow 0
  have c1 := Mem.cell_of_row hrow 1
  have c2 := Mem.cell_of_row hrow 2
  simp at c0 c1 c2
  have f1 := Mem.frozen_of_row hrow 1
  have f2 := Mem.frozen_of_row hrow 2
  have hl := row_len hin
  unfold maxLen at hl
  have HIN : Hid (IsRow W a len cap zs) := hin
  have HROW : Hid (HasRow W g [.slice a len cap, .int .i64 p, .int .u64 mix, .int .i64 size] 72) := hrow
  have HBLK : Hid (∀ x, a = some x → 0 < cap → x.block < g) := hblk
  have hss := set_set
  clear hin hrow hblk
  by_cases hlt : p < len
  · obtain ⟨b, off, rfl, hcell, hz0, hz1⟩ := row_at HIN.out hlt
    have hlti : (p : Int) < (len : Int) := by omega
    generalize zs.getD p 0 = zv at *
    go_enter Try.func27, Try.ntmps27
    go_wp2
    go_region
    go_wp2
    go_region
    go_wp2
    go_region
    go_wp2
    go_region
    go_wp2
    go_region
    go_wp2
    go_ret
    have hv := fun x => val_bd (wrap_nonneg x) hm hm2
    have R := fun m hq => src_set hs0 hs1 HROW.out HIN.out HBLK.out (p + 1) (by omega) m hq
    refine ⟨_, rfl, (hv _).1, (hv _).2, ?_⟩
    exact ⟨(R _ (bits_bd _ _ _)).1, grown_drew (grown_drew (grown_drew (grown_drew (grown_drew (R _ (bits_bd _ _ _)).2))))⟩
  · have hge : ¬ (p : Int) < (len : Int) := by omega
    go_enter Try.func27, Try.ntmps27
    go_wp2
    go_region
    go_wp2
    go_region
    go_wp2
    go_region
    go_wp2
    go_region
    go_wp2
    go_ret
    have R := fun m hq => src_set2 hs0 hs1 HROW.out HIN.out HBLK.out hp m hq
    have hv := fun x => val_bd (wrap_nonneg x) hm hm2
    refine ⟨_, rfl, (hv _).1, (hv _).2, (R _ (bits_bd _ _ _)).1, grown_drew (grown_drew (grown_drew (grown_drew (R _ (bits_bd _ _ _)).2)))⟩

theorem grown_refl (w : World) (r : Option Nat) : w.grownBy w r := ⟨rfl, rfl, rfl, Nat.le_refl _, fun _ _ _ => rfl⟩

/-- A number that is drawn below 'most'. -/
def Num (most v : Int) : Prop := 0 ≤ v ∧ (2 ≤ most → v < most) ∧ (most < 2 → v = 0)

set_option maxRecDepth 100000 in
theorem n_any (W : World) (g : Nat) (a : Option Addr) (len cap : Nat) (zs : List Int) (most : Int) (h : Src W g a len cap zs) (hm2 : most ≤ 9223372036854775807) :
    Calls Try.prog 27 #[.pointer (some ⟨g, 0, none⟩), .int .i64 most] W fun e W' => ∃ v : Int, e = .returned (.int .i64 v) ∧ Num most v ∧ Src W' g a len cap zs ∧ W.grownBy W' (some g) := by
  by_cases hm : 2 ≤ most
  · refine (n_in W g a len cap zs most h hm hm2).mono ?_
    rintro e W' ⟨v, rfl, h0, h1, h2, h3⟩
    exact ⟨v, rfl, ⟨h0, fun _ => h1, fun _ => by omega⟩, h2, h3⟩
  · have HS : Hid (Src W g a len cap zs) := h
    clear h
    go_enter Try.func27, Try.ntmps27
    go_wp2
    go_ret
    exact ⟨0, rfl, ⟨by omega, fun _ => by omega, fun _ => rfl⟩, HS.out, grown_refl _ _⟩

theorem one_any (W : World) (g : Nat) (a : Option Addr) (len cap : Nat) (zs : List Int) (most : Int) (h : Src W g a len cap zs) (hm2 : most ≤ 9223372036854775807) :
    Calls Try.prog 28 #[.pointer (some ⟨g, 0, none⟩), .int .i64 most] W fun e W' => ∃ b : Bool, e = .returned (.bool b) ∧ Src W' g a len cap zs ∧ W.grownBy W' (some g) := by
  have HK : Hid (∀ W, Src W g a len cap zs → Calls Try.prog 27 #[.pointer (some ⟨g, 0, none⟩), .int .i64 most] W fun e W' => ∃ v : Int, e = .returned (.int .i64 v) ∧ Num most v ∧ Src W' g a len cap zs ∧ W.grownBy W' (some g)) := fun W h => n_any W g a len cap zs most h hm2
  have HS : Hid (Src W g a len cap zs) := h
  clear h
  go_enter Try.func28, Try.ntmps28
  go_wp2_with (go_at_call 27; refine (HK.out _ HS.out).mono ?_; rintro e W' ⟨v, rfl, hv, hs, hg⟩)
  go_ret
  exact ⟨_, rfl, hs, hg⟩

/-- A source is what it was where nothing up to it has turned. -/
theorem src_below {W W' : World} {g : Nat} {a : Option Addr} {len cap : Nat} {zs : List Int} {B : Nat} (h : Src W g a len cap zs) (hb : Below B W W') (hB : g < B) : Src W' g a len cap zs := by
  obtain ⟨p, mix, size, h1, h2, h3, h4, h5, hrow, hin, hblk⟩ := h
  refine ⟨p, mix, size, h1, h2, h3, h4, h5, ?_, ?_, hblk⟩
  · unfold HasRow at *
    rw [hb.block g hB]; exact hrow
  · rcases hin with h | ⟨x, rfl, k1, k2, k3, k4, k5⟩
    · exact .inl h
    · refine .inr ⟨x, rfl, k1, k2, k3, fun i hi => ?_, k5⟩
      have hx := hblk x rfl (by omega)
      have hbk : (x.add i).block = x.block := by unfold Addr.add; split <;> rfl
      rw [hb.cell (by rw [hbk]; omega)]
      exact k4 i hi

theorem src_lt {W : World} {g : Nat} {a : Option Addr} {len cap : Nat} {zs : List Int} (h : Src W g a len cap zs) : g < W.heap.size := by
  obtain ⟨p, mix, size, h1, h2, h3, h4, h5, hrow, hin, hblk⟩ := h
  exact row_lt hrow

theorem grown_below {W w w' : World} {g : Nat} (h : W.grownBy w (some g)) (hb : Below W.heap.size w w') : W.grownBy w' (some g) :=
  ⟨hb.os.trans h.os, hb.tape.trans h.tape, hb.output.trans h.output, Nat.le_trans h.size hb.size, fun k hk hr => (hb.block k hk).trans (h.block k hk hr)⟩

/-- What an n left of a slice of the call's own. -/
theorem own_kept {w w' : World} {base g : Nat} {e : TypeId} {v : Value} {l : List UInt8} (h : OwnsB w base e v l) (hg : w.grownBy w' (some g)) (hb : g < base) : OwnsB w' base e v l := by
  refine World.ownsRow.kept h hg ?_
  cases ho : v.ownBlock with
  | none => exact .inl rfl
  | some k =>
    refine .inr ?_
    have := (World.ownsRow.lt h k ho).1
    intro hc
    injection hc with hc
    omega

/-- 'string(b)' of a slice of the call's own, empty or not. -/
theorem own_text' {P : Program} (src dst e : TypeId) (hs : P.underlying src = some (.slice e)) (he : P.underlying e = some (.int .u8)) (hd : P.underlying dst = some .string)
    {W : World} {base : Nat} {v : Value} {l : List UInt8} (h : OwnsB W base e v l) (hn : v ≠ .slice none 0 0) : (convert src dst v).run P W = .ok (.string ⟨l.toArray⟩) W := by
  have hc := fun g hg => World.ownsRow.cells h (g := g) hg
  obtain ⟨_, h2⟩ := h
  rcases h2 with ⟨h0, _⟩ | ⟨g, cap, cur, rfl, _⟩
  · exact absurd h0 hn
  · refine run_convert_bytes_back W src dst e _ cap l hs he hd ?_
    intro j hj
    refine hc g rfl j _ ?_
    simp [Lib.byteCells, hj]

theorem info8 : (Try.prog.info? 5).map (fun i => (i.zero, i.size, i.bytes)) = some (some (.int .u8 0), 1, 1) := by kernel_rfl
theorem under : Try.prog.underlying 22 = some (.slice 5) := by kernel_rfl
theorem underS : Try.prog.underlying 9 = some .string := by kernel_rfl
theorem under8 : Try.prog.underlying 5 = some (.int .u8) := by kernel_rfl

set_option maxRecDepth 100000 in
set_option maxHeartbeats 1000000 in
/-- So many drawn bytes. -/
theorem bytes_any (W : World) (g : Nat) (a : Option Addr) (len cap : Nat) (zs : List Int) (n : Nat) (h : Src W g a len cap zs) (hn : (n : Int) ≤ 1000000) :
    Calls Try.prog 43 #[.pointer (some ⟨g, 0, none⟩), .int .i64 n] W fun e W' => ∃ t : ByteArray, e = .returned (.string t) ∧ t.size = n ∧ Src W' g a len cap zs ∧ W.grownBy W' (some g) := by
  have HK : Hid (∀ W, Src W g a len cap zs → Calls Try.prog 27 #[.pointer (some ⟨g, 0, none⟩), .int .i64 256] W fun e W' => ∃ v : Int, e = .returned (.int .i64 v) ∧ Num 256 v ∧ Src W' g a len cap zs ∧ W.grownBy W' (some g)) := fun W h => n_any W g a len cap zs 256 h (by omega)
  have HS : Hid (Src W g a len cap zs) := h
  have hgl := src_lt h
  clear h
  obtain ⟨i0, hi, hz0, hz1, hz2⟩ := info_parts info8
  go_enter Try.func43, Try.ntmps43
  go_wp2
  go_loopw [5, 6] (fun b i wr => ∃ (k : Nat) (l : List UInt8), k ≤ n ∧ i = .int .i64 k ∧ Hid (l.length = k) ∧ Hid (b ≠ .slice none 0 0) ∧ OwnsB wr W.heap.size 5 b l ∧ Hid (Src wr g a len cap zs) ∧ W.grownBy wr (some g)) (fun _ i _ => n - (intOf i).toNat)
  case atStart => exact ⟨0, [], by omega, rfl, rfl, (by show _ ≠ _; simp), own_empty _ _ _ (Nat.le_refl _), src_below HS.out ((Below.refl W.heap.size _).alloc (Nat.le_refl _) _) hgl, World.grownBy_alloc _ _ _⟩
  case round =>
    obtain ⟨k, l, hk, rfl, HLK, HN, hown, HSr, hgr⟩ := hrel
    by_cases hlt : k < n
    · go_wp2_with (first | (go_at_call 27; refine (HK.out _ HSr.out).mono ?_; rintro e w1 ⟨v, rfl, hv, hs1, hg1⟩; have hown1 := own_kept hown hg1 hgl; have hv0 := hv.1; have hv1 := hv.2.1 (by omega); have hsz1 := Nat.le_trans hgr.size hg1.size; have HS1 : Hid (Src w1 g a len cap zs) := hs1; clear hs1) | (at_builtin; refine wpList_append_own _ rfl _ _ 22 rfl W.heap.size 5 i0 (.int .u8 0) 1 1 under hi hz0 hz1 hz2 rfl (by decide) _ _ _ rfl (World.ownsRow.alloc hown1 _) ⟨w1.heap.size, 0, none⟩ 1 1 [.int .u8 v] rfl rfl ?c1 ?c2 ?c3 ?c4 ?c5 ?_))
      case c1 =>
        intro j u hj
        match j, hj with
        | 0, hj => simp at hj; subst hj; simp [Addr.add]
      case c2 => intro u hu; simp at hu; subst hu; rfl
      case c3 => have := HLK.out; unfold maxLen; omega
      case c4 => have := HLK.out; omega
      case c5 => simp; omega
      · intro v' w2 hown' hgrow hnil
        have hb : v = ((UInt8.ofNat v.toNat).toNat : Int) := by simp; omega
        have R := own_step hown1 (Below.refl W.heap.size w1) hsz1 hb hown' hgrow
        have HN' : Hid (v' ≠ .slice none 0 0) := hnil
        have HS2 : Hid (Src w2 g a len cap zs) := src_below HS1.out R.2 hgl
        have hgr2 := grown_below (Lib.grownBy_trans hgr hg1) R.2
        clear hown' hgrow hown hown1 hnil HN
        go_wp2
        go_roundw
        case rel => exact ⟨k + 1, _, by omega, by go_num, (by show _ = _; rw [List.length_append, HLK.out]; rfl), HN', R.1, HS2, hgr2⟩
        case measure => simp [intOf]; omega
    · have hcv := own_text' (P := Try.prog) 22 9 5 under under8 underS hown HN.out
      clear hown HN
      go_wp2
      go_ret
      exact ⟨_, rfl, by have := HLK.out; show l.length = n; omega, HSr.out, hgr⟩
end Go.Proofs.Ytdljakemiplgnaa.Draw
