/- What the program's gathering of rising shards answers. -/
import Derived.Test.YtkanhjafchiikaaTextsG
import Derived.Test.YtkanhjafchiikaaTextsA
import Derived.Test.YtkanhjafchiikaaTextsF
import Derived.Test.YtkanhjafchiikaaTextsB
import Derived.Deep.DeepCutAuto
import Derived.BigRegion
namespace Go.Proofs.Ytkanhjafchiikaa.Srt
open Go.RowKit Go.Proofs.Ytkanhjafchiikaa.Mem Go.Proofs.Ytkanhjafchiikaa.Harn Go.Proofs.Ytkanhjafchiikaa.Gf

theorem make_pieces' (n : Nat) (hn : n ≤ 1000) (W : World) :
    (Instr.makeSlice 61 (.int .i64 (n : Int)) (.int .i64 (n : Int))).run Try.prog W = .ok (.slice (some ⟨W.heap.size, 0, none⟩) n n) (W.alloc (.cells (List.replicate n (.slice none 0 0)).toArray 22)) := by
  rw [run_make_row' (P := Try.prog) 61 22 (.slice none 0 0) 24 underU8ss infoU8s rfl .i64 .i64 n (by omega) (by omega) W, ← toList_madeCells_one]
theorem make_places' (n : Nat) (hn : n ≤ 1000) (W : World) :
    (Instr.makeSlice 58 (.int .i64 (n : Int)) (.int .i64 (n : Int))).run Try.prog W = .ok (.slice (some ⟨W.heap.size, 0, none⟩) n n) (W.alloc (.cells (List.replicate n (.int .i64 0)).toArray 2)) := by
  rw [run_make_row' (P := Try.prog) 58 2 (.int .i64 0) 8 underI64s infoI64 rfl .i64 .i64 n (by omega) (by omega) W, ← toList_madeCells_one]

/-- the first k pieces and places are laid -/
structure GInv (wr : World) (gp gx B : Nat) (l : List E) (k : Nat) (vs : List Value) : Prop where
  len : vs.length = k
  rp : HasRow wr gp (vs ++ List.replicate (l.length - k) (.slice none 0 0)) 22
  rx : HasRow wr gx ((l.take k).map (fun e => Value.int .i64 e.1) ++ List.replicate (l.length - k) (.int .i64 0)) 2
  pc : ∀ j (_ : j < k) (_ : j < l.length), ∃ b c, vs[j]? = some (.slice (some ⟨b, 0, none⟩) l[j].2.size c) ∧ B ≤ b ∧ b < wr.heap.size ∧ ∀ i (_ : i < l[j].2.size), wr.cell? ⟨b, i, none⟩ = some (.int .u8 ((l[j].2[i]).toNat : Nat))

theorem set_next {α : Type} (xs : List α) (z v : α) (n k : Nat) (hl : xs.length = k) (hk : k < n) : (xs ++ List.replicate (n - k) z).set k v = (xs ++ [v]) ++ List.replicate (n - (k + 1)) z := by
  subst hl
  rw [List.set_append_right _ _ (Nat.le_refl _), Nat.sub_self, show n - xs.length = (n - (xs.length + 1)) + 1 by omega, List.replicate_succ, List.set_cons_zero]
  simp
theorem cell_new2 (V : World) (o1 : Obj) (cs : Array Value) (T : TypeId) (fz : Nat × Nat) (i g : Nat) (hg : g = V.heap.size + 1) : ((V.alloc o1).alloc (.cells cs T fz)).drew.drew.cell? ⟨g, i, none⟩ = cs[i]? := by
  have e : ((V.alloc o1).alloc (.cells cs T fz)).heap[g]? = some (.cells cs T fz) := by
    rw [show g = (V.alloc o1).heap.size by simp [hg]]; exact heap_alloc_new _ _
  have e2 : ((V.alloc o1).alloc (.cells cs T fz)).drew.drew.heap[g]? = some (.cells cs T fz) := e
  simp [World.cell?, e2]
theorem GInv.step {wr : World} {gp gx B : Nat} {l : List E} {k : Nat} {vs : List Value} (h : GInv wr gp gx B l k vs) (hk : k < l.length) (hne : gp ≠ gx) (hpB : gp < B) (hxB : gx < B) (hB : B ≤ wr.heap.size) (c : Nat) (o1 o2 : Obj) (cs : Array Value) (fz : Nat × Nat) (ho2 : o2 = .cells cs 5 fz) (hcs : ∀ i (_ : i < l[k].2.size), cs[i]? = some (.int .u8 ((l[k].2[i]).toNat : Nat))) :
    GInv ((((wr.setCell ⟨gp, k, none⟩ (.slice (some ⟨wr.heap.size + 1, 0, none⟩) l[k].2.size c)).setCell ⟨gx, k, none⟩ (.int .i64 l[k].1)).alloc o1).alloc o2).drew.drew gp gx B l (k + 1) (vs ++ [.slice (some ⟨wr.heap.size + 1, 0, none⟩) l[k].2.size c]) := by
  have hlen : ((l.take k).map (fun e : E => Value.int .i64 e.1)).length = k := by simp; omega
  have key : ∀ b i, b ≠ gp → b ≠ gx → b < wr.heap.size → ((((wr.setCell ⟨gp, k, none⟩ (.slice (some ⟨wr.heap.size + 1, 0, none⟩) l[k].2.size c)).setCell ⟨gx, k, none⟩ (.int .i64 l[k].1)).alloc o1).alloc o2).cell? ⟨b, i, none⟩ = wr.cell? ⟨b, i, none⟩ := fun b i h1 h2 h3 => by
    have a1 : Below (wr.heap.size) ((wr.setCell ⟨gp, k, none⟩ (.slice (some ⟨wr.heap.size + 1, 0, none⟩) l[k].2.size c)).setCell ⟨gx, k, none⟩ (.int .i64 l[k].1)) ((((wr.setCell ⟨gp, k, none⟩ (.slice (some ⟨wr.heap.size + 1, 0, none⟩) l[k].2.size c)).setCell ⟨gx, k, none⟩ (.int .i64 l[k].1)).alloc o1).alloc o2) := ((Below.refl _ _).alloc (by simp) _).alloc (by simp) _
    rw [a1.cell (p := ⟨b, i, none⟩) h3, World.cell?_setCell_other _ _ _ _ (by intro e; injection e with e _ _; exact h2 e.symm), World.cell?_setCell_other _ _ _ _ (by intro e; injection e with e _ _; exact h1 e.symm)]
  refine ⟨by simp [h.len], ?_, ?_, ?_⟩
  · have h1 := row_set h.rp k (.slice (some ⟨wr.heap.size + 1, 0, none⟩) l[k].2.size c)
    rw [set_next _ _ _ _ _ h.len hk] at h1
    exact Sha.row_alloc (Sha.row_alloc (Sha.row_other h1 ⟨gx, k, none⟩ _ hne) _) _
  · have h1 := row_set (Sha.row_other h.rx ⟨gp, k, none⟩ (.slice (some ⟨wr.heap.size + 1, 0, none⟩) l[k].2.size c) (Ne.symm hne)) k (.int .i64 l[k].1)
    rw [set_next _ _ _ _ _ hlen hk] at h1
    have e : (l.take k).map (fun e : E => Value.int .i64 e.1) ++ [Value.int .i64 l[k].1] = (l.take (k + 1)).map (fun e : E => Value.int .i64 e.1) := by rw [List.take_succ_eq_append_getElem hk, List.map_append]; rfl
    rw [e] at h1
    exact Sha.row_alloc (Sha.row_alloc h1 _) _
  · intro j hj hjl
    rcases Nat.lt_or_ge j k with h2 | h2
    · obtain ⟨b, c', e1, e2, e3, e4⟩ := h.pc j h2 hjl
      refine ⟨b, c', ?_, e2, ?_, fun i hi => ?_⟩
      · rw [List.getElem?_append_left (by rw [h.len]; exact h2), e1]
      · show b < (World.heap _).size; simp; omega
      · rw [← e4 i hi]
        exact key b i (by omega) (by omega) e3
    · obtain rfl : j = k := by omega
      refine ⟨wr.heap.size + 1, c, ?_, by omega, ?_, fun i hi => ?_⟩
      · rw [List.getElem?_append_right (by rw [h.len]; exact Nat.le_refl _), h.len, Nat.sub_self]; rfl
      · show _ < (World.heap _).size; simp
      · subst ho2
        rw [← hcs i hi]
        exact cell_new2 _ _ _ _ _ _ _ (by simp)

theorem GInv.lists {wr : World} {gp gx B : Nat} {l : List E} {vs : List Value} (h : GInv wr gp gx B l l.length vs) : Lists .u8 wr (.slice (some ⟨gp, 0, none⟩) l.length l.length) (psOf l) := by
  refine ⟨some ⟨gp, 0, none⟩, l.length, by simp [psOf], fun j hj => ?_⟩
  have hj2 : j < l.length := by simpa [psOf] using hj
  obtain ⟨b, c, e1, e2, e3, e4⟩ := h.pc j hj2 hj2
  refine ⟨gp, 0, .slice (some ⟨b, 0, none⟩) l[j].2.size c, rfl, ?_, ?_⟩
  · rw [Nat.zero_add, Mem.cell_of_row h.rp, List.getElem?_append_left (by rw [h.len]; exact hj2), e1]
  · have e : (psOf l)[j] = nb l[j].2 := by simp [psOf]
    rw [e]
    refine ⟨_, c, by rw [nb_len], fun i hi => ⟨b, 0, rfl, ?_⟩⟩
    have hi2 : i < l[j].2.size := by rw [nb_len] at hi; exact hi
    rw [Nat.zero_add, e4 i hi2, nb_at _ _ hi2]
theorem GInv.nums {wr : World} {gp gx B : Nat} {l : List E} {vs : List Value} (h : GInv wr gp gx B l l.length vs) (h0 : ∀ e ∈ l, 0 ≤ e.1) : NumsK .i64 wr (.slice (some ⟨gx, 0, none⟩) l.length l.length) (xsOf l) := by
  refine ⟨some ⟨gx, 0, none⟩, l.length, by simp [xsOf], fun j hj => ⟨gx, 0, rfl, ?_⟩⟩
  have hj2 : j < l.length := by simpa [xsOf] using hj
  rw [Nat.zero_add, Mem.cell_of_row h.rx, List.take_length, Nat.sub_self]
  have := h0 _ (List.getElem_mem hj2)
  simp [hj2, xsOf]; omega

/-- 'append(xs, ys...)' of at least one value of one cell each -/
theorem app_vals {P : Program} (t ty T : TypeId) (z : Value) (bytes : Nat) (ht : P.underlying t = some (.slice T)) (hi : (P.info? T).map (fun i => (i.zero, i.size, i.bytes)) = some (some z, 1, bytes)) (hzs : z.cells.size = 1) (hby : bytes ≤ 64) (base : Nat) (v : Value) (cs us : List Value) (ad : Addr) (c : Nat) (W : World) (h : OwnV T W base v cs) (hbase : base ≤ W.heap.size) (h0 : ∀ j u, us[j]? = some u → W.cell? (ad.add j) = some u) (h1 : ∀ u ∈ us, u.oneCell' = true) (hm : 0 < us.length) (hn : cs.length + us.length ≤ 1100000) :
    ∃ g' cap W1, (Builtin.append_ #[t, t] ty #[v, .slice (some ad) us.length c]).run P W = .ok (.slice (some ⟨g', 0, none⟩) (cs.length + us.length) cap) W1 ∧ OwnV T W1 base (.slice (some ⟨g', 0, none⟩) (cs.length + us.length) cap) (cs ++ us) ∧ (v.ownBlock = some g' ∨ g' = W.heap.size) ∧ g' < W1.heap.size ∧ W.grownBy W1 v.ownBlock := by
  obtain ⟨i, hi0, hz0, hz1, hz2⟩ := info_parts hi
  obtain ⟨g', cap, W1, hr, hown, hgr, hat, hlt⟩ := run_append_lies (P := P) W t ty base T i z 1 bytes ht hi0 hz0 hz1 hz2 hzs (by omega) v cs.length cs h ad us.length c us (by omega) h0 h1 hm (by unfold maxLen; omega) (by
      have : (cs.length + us.length) * bytes ≤ 1100001 * 64 := Nat.mul_le_mul (by omega) hby
      omega) hbase W.heap.size rfl
  exact ⟨g', cap, W1, hr, by unfold OwnV; simpa using hown, hat, hlt, hgr⟩
theorem wp_vals {P : Program} {w : World} {ops : Array Oper} {rest : List Oper} {o : Oper} {a : Act} {Q : Exit → Act → World → Prop} (hgd : o.guard = none) (s x : Operand) (t T : TypeId) (z : Value) (bytes : Nat)
    (ho : o.op = .call { callee := .builtin .append, args := #[s, x], argTypes := #[t, t] }) (ht : P.underlying t = some (.slice T)) (hi : (P.info? T).map (fun i => (i.zero, i.size, i.bytes)) = some (some z, 1, bytes)) (hzs : z.cells.size = 1) (hby : bytes ≤ 64) (base : Nat) (v : Value) (cs us : List Value) (ad : Addr) (m c : Nat) (hs : a.eval s = v) (hx : a.eval x = .slice (some ad) m c) (hml : us.length = m)
    (h : OwnV T w base v cs) (hbase : base ≤ w.heap.size) (h0 : ∀ j u, us[j]? = some u → w.cell? (ad.add j) = some u) (h1 : ∀ u ∈ us, u.oneCell' = true) (hm : 0 < us.length) (hn : cs.length + us.length ≤ 1100000)
    (hK : ∀ v' w', OwnV T w' base v' (cs ++ us) → Below base w w' → w.heap.size ≤ w'.heap.size → wpList P ops Q rest (a.put o.dst v') w') : wpList P ops Q (o :: rest) a w := by
  subst hml
  obtain ⟨g', cap, w', hr, a1, _, _, a4⟩ := app_vals t o.type T z bytes ht hi hzs hby base v cs us ad c w h hbase h0 h1 hm hn
  have hb := (Below.refl base w).grown a4 hbase (fun j hj => (World.ownsRow.lt h j hj).1)
  exact wp_app1 hgd s x _ ho _ _ _ w' hs hx hr (hK _ w' a1 hb hb.size)
/-- 'b[:n]' -/
theorem slice_front (ty : TypeId) (hty : Try.prog.underlying ty = some (.slice 5)) (g b n c : Nat) (hb : b ≤ n) (hc : n ≤ c) (j : Int) (hj : j = b) (W : World) :
    (Instr.slice ty (.slice (some ⟨g, 0, none⟩) n c) none (some (.int .i64 j)) none).run Try.prog W = .ok (.slice (some ⟨g, 0, none⟩) b c) W := by
  subst hj
  have h1 : b ≤ c := by omega
  simp [Instr.slice, Instr.sliceBounds, run_underlying hty, go_sem, h1]

set_option maxRecDepth 100000 in
set_option maxHeartbeats 1000000 in
theorem gathered_any (a : Option Addr) (cap : Nat) (l : List E) (s L : Nat) (w : World) (h : Pends w (.slice a l.length cap) l) (h1 : 1 ≤ l.length) (h2 : l.length ≤ 6) (hL1 : 1 ≤ L) (hL2 : L ≤ 200) (hs1 : 1 ≤ s) (hs2 : s ≤ l.length * L) (hi : ∀ e ∈ l, 0 ≤ e.1 ∧ e.1 < 256 ∧ e.2.size = L) :
    Calls Try.prog 40 #[.slice a l.length cap, .int .i64 (s : Nat)] w fun e w' => e = .returned (.string (toB ((wholeL l L l.length).take s))) ∧ Below w.heap.size w w' := by
  have HXE : Hid (Els (xsOf l)) := fun x hx => by
    obtain ⟨e, he, rfl⟩ := List.mem_map.1 hx
    have := hi e he; omega
  have HI1 : Hid (∀ e ∈ l, 0 ≤ e.1) := fun e he => (hi e he).1
  have HPL : Hid (∀ p ∈ psOf l, p.length = L) := fun p hp => by
    obtain ⟨e, he, rfl⟩ := List.mem_map.1 hp
    rw [nb_len]; exact (hi e he).2.2
  have HPE2 : Hid (∀ p ∈ psOf l, Els p) := fun p hp => by
    obtain ⟨e, he, rfl⟩ := List.mem_map.1 hp
    exact nb_els _
  have HPN : Hid ((psOf l).length = l.length) := by show _ = _; simp [psOf]
  have HXN : Hid ((xsOf l).length = l.length) := by show _ = _; simp [xsOf]
  have HWL : Hid (∀ k, (ncells .u8 (wholeL l L k)).length = k * L) := fun k => by rw [length_ncells, wholeL_len]
  have HWS : Hid (∀ k, ncells .u8 (wholeL l L (k + 1)) = ncells .u8 (wholeL l L k) ++ ncells .u8 (mixed (weight (xsOf l) k) (psOf l) L)) := fun k => by rw [wholeL_succ]; simp [ncells]
  have HKL : Hid (∀ k, k ≤ l.length → k * L ≤ 6 * L) := fun k hk => Nat.mul_le_mul_right _ (by omega)
  have HOUT : Hid (∃ z, z = toB ((wholeL l L l.length).take s)) := ⟨_, rfl⟩
  have hm1 := make_pieces' l.length (by omega)
  have hm2 := make_places' l.length (by omega)
  obtain ⟨zp, hzp⟩ : ∃ zp, zp = (List.replicate l.length (Value.slice none 0 0)).toArray := ⟨_, rfl⟩
  obtain ⟨zx, hzx⟩ : ∃ zx, zx = (List.replicate l.length (Value.int .i64 0)).toArray := ⟨_, rfl⟩
  rw [← hzp] at hm1
  rw [← hzx] at hm2
  have HZP : Hid _ := hzp
  have HZX : Hid _ := hzx
  clear hzp hzx
  go_enter Try.func40, Try.ntmps40
  go_upto_region 1 with fail
  go_cut [5, 6] (fun p x wx => ∃ gp gx, p = .slice (some ⟨gp, 0, none⟩) l.length l.length ∧ x = .slice (some ⟨gx, 0, none⟩) l.length l.length ∧ gp ≠ gx ∧ w.heap.size ≤ gp ∧ w.heap.size ≤ gx ∧ gp < wx.heap.size ∧ gx < wx.heap.size ∧ HasRow wx gp (List.replicate l.length (.slice none 0 0)) 22 ∧ HasRow wx gx (List.replicate l.length (.int .i64 0)) 2 ∧ Below w.heap.size w wx)
  case first =>
    go_region
    · go_wp2
      go_meet
      rw [HZP.out, HZX.out]
      exact ⟨w.heap.size, w.heap.size + 1, rfl, rfl, by omega, by omega, by omega, by simp; omega, by simp, Sha.row_alloc (Sha.row_new w _ _) _, Sha.row_new_at _ _ _ _ (by simp), Sha.bel_drewN (((Below.refl _ _).alloc (Nat.le_refl _) _).alloc (by simp) _) 1⟩
    · go_wp2
      go_meet
      rw [HZP.out, HZX.out]
      exact ⟨w.heap.size + 1, w.heap.size, rfl, rfl, by omega, by omega, by omega, by simp, by simp; omega, Sha.row_new_at _ _ _ _ (by simp), Sha.row_alloc (Sha.row_new w _ _) _, Sha.bel_drewN (((Below.refl _ _).alloc (Nat.le_refl _) _).alloc (by simp) _) 1⟩
  case rest =>
  obtain ⟨gp, gx, rfl, rfl, hne, hp0, hx0, hp1, hx1, hrp, hrx, hbel⟩ := hcut
  have HI0 : Hid (GInv wc gp gx wc.heap.size l 0 []) := ⟨rfl, hrp, hrx, fun j h _ => by omega⟩
  have HB0 : Hid (Below w.heap.size w wc) := hbel
  have HCV : Hid (∀ (t : ByteArray) (W : World), (convert 9 22 (.string t)).run Try.prog W = .ok (.slice (some ⟨W.heap.size, 0, none⟩) t.size (grownCap W t.size 0 5)) (W.drew.alloc (.cells (bytesRow t (grownCap W t.size 0 5)) 5 ((bytesRow t (grownCap W t.size 0 5)).size, (bytesRow t (grownCap W t.size 0 5)).size + 1)))) := fun t W => run_bytes_of_string W 9 22 5 t Join.underS Join.under Join.under8
  obtain ⟨n, hn⟩ : ∃ n, n = l.length := ⟨_, rfl⟩
  have HPE : Hid (Pends w (.slice a l.length cap) l) := h
  have HN : Hid (n = l.length) := hn
  rw [← hn]
  clear hrp hrx hbel hm1 hm2 HZP HZX h hn
  go_wp2
  go_loopw [19] (fun i wr => ∃ k : Nat, k ≤ n ∧ i = .int .i64 k ∧ (∃ vs, GInv wr gp gx wc.heap.size l k vs) ∧ wc.heap.size ≤ wr.heap.size ∧ Below w.heap.size w wr) (fun i _ => n - (intOf i).toNat)
  case atStart => exact ⟨0, by omega, rfl, ⟨[], HI0.out⟩, Nat.le_refl _, HB0.out⟩
  case round =>
    obtain ⟨k, hk, rfl, ⟨vs, hinv⟩, hzr, hbel⟩ := hrel
    have HBEL : Hid (Below w.heap.size w wr) := hbel
    have HINV : Hid (GInv wr gp gx wc.heap.size l k vs) := hinv
    clear HI0 hinv
    by_cases hlt : k < n
    · have hkl : k < l.length := by rw [← HN.out]; exact hlt
      obtain ⟨a', cap', hv, hc⟩ := HPE.out
      injection hv with hv1 hv2 hv3
      subst hv1 hv3
      obtain ⟨b, o, rfl, d1, d2⟩ := hc k hkl
      have c1 : wr.cell? ⟨b, o + k * 2, none⟩ = _ := (HBEL.out.cell (World.block_lt_of_cell? w _ d1)).trans d1
      have c2 : wr.cell? ⟨b, o + k * 2 + 1, none⟩ = _ := (HBEL.out.cell (World.block_lt_of_cell? w _ d2)).trans d2
      have c3 : wr.cell? ⟨gp, k, none⟩ = some (.slice none 0 0) := by
        rw [Mem.cell_of_row HINV.out.rp, List.getElem?_append_right (by rw [HINV.out.len]; exact Nat.le_refl _), HINV.out.len, Nat.sub_self, List.getElem?_replicate, if_pos (by omega)]
      have f3 : wr.frozen? ⟨gp, k, none⟩ = false := Mem.frozen_of_row HINV.out.rp k
      have c4 : wr.cell? ⟨gx, k, none⟩ = some (.int .i64 0) := by
        have hlen : ((l.take k).map (fun e : E => Value.int .i64 e.1)).length = k := by simp; omega
        rw [Mem.cell_of_row HINV.out.rx, List.getElem?_append_right (by rw [hlen]; exact Nat.le_refl _), hlen, Nat.sub_self, List.getElem?_replicate, if_pos (by omega)]
      have f4 : wr.frozen? ⟨gx, k, none⟩ = false := Mem.frozen_of_row HINV.out.rx k
      have HX : Hid (l[k].1 = l[k].1 ∧ l[k].2 = l[k].2) := ⟨rfl, rfl⟩
      obtain ⟨t, ht⟩ : ∃ t, t = l[k].2 := ⟨_, rfl⟩
      obtain ⟨x, hx⟩ : ∃ x, x = l[k].1 := ⟨_, rfl⟩
      rw [← hx] at c1
      rw [← ht] at c2
      have hcv := HCV.out t
      obtain ⟨gc, hgc⟩ : ∃ gc : World → Nat, ∀ W, grownCap W t.size 0 5 = gc W := ⟨_, fun W => rfl⟩
      simp only [hgc] at hcv
      obtain ⟨br, hbr⟩ : ∃ br : World → Obj, ∀ W, Obj.cells (bytesRow t (gc W)) 5 ((bytesRow t (gc W)).size, (bytesRow t (gc W)).size + 1) = br W := ⟨_, fun W => rfl⟩
      simp only [hbr] at hcv
      have HBR : Hid (∀ W, br W = Obj.cells (bytesRow t (gc W)) 5 ((bytesRow t (gc W)).size, (bytesRow t (gc W)).size + 1)) := fun W => (hbr W).symm
      have HT : Hid (t = l[k].2) := ht
      have HXX : Hid (x = l[k].1) := hx
      have p1 : (k : Int) < (n : Int) := by omega
      have hgp := World.block_lt_of_cell? wr _ c3
      have hgx := World.block_lt_of_cell? wr _ c4
      simp only at hgp hgx
      clear hv2 hc d1 d2 hbel ht hx hgc hbr HX
      go_wp2_with fail
      go_region
      all_goals
        go_wp2
        go_roundw
        case rel => exact ⟨k + 1, by omega, by go_num, ⟨_, by
          rw [HT.out, HXX.out]
          exact GInv.step HINV.out (by rw [← HN.out]; exact hlt) hne hp1 hx1 hzr _ _ _ _ _ (HBR.out _) (fun i hi => by
            have e := HT.out
            subst e
            exact bytesRow_at _ _ i hi)⟩, by show _ ≤ (World.heap _).size; simp; omega, Sha.bel_drewN ((((HBEL.out.setCell (p := ⟨gp, k, none⟩) hp0 _).setCell (p := ⟨gx, k, none⟩) hx0 _).alloc (by simp; omega) _).alloc (by simp; omega) _) 2⟩
        case measure => simp [intOf]; omega
    · obtain rfl : k = n := by omega
      have HIN : Hid (GInv wr gp gx wc.heap.size l l.length vs) := by rw [← HN.out]; exact HINV.out
      have HLI : Hid (Lists .u8 wr (.slice (some ⟨gp, 0, none⟩) k k) (psOf l)) := by rw [HN.out]; exact HIN.out.lists
      have HNU : Hid (NumsK .i64 wr (.slice (some ⟨gx, 0, none⟩) k k) (xsOf l)) := by rw [HN.out]; exact HIN.out.nums HI1.out
      clear HIN HINV hbel HCV hzr hp0 hx0 hp1 hx1
      generalize wr = wa at *
      have hk6 : (k : Int) ≤ 6 := by have := HN.out; omega
      have hwl0 : ncells .u8 (wholeL l L 0) = [] := rfl
      go_wp2
      go_loopw [9, 38] (fun v i wr => ∃ t : Nat, t ≤ k ∧ i = .int .i64 t ∧ OwnV 5 wr wa.heap.size v (ncells .u8 (wholeL l L t)) ∧ Below wa.heap.size wa wr) (fun _ i _ => k - (intOf i).toNat)
      case atStart => exact ⟨0, by omega, rfl, World.ownsRow_nil _ _ _ _, Below.refl _ _⟩
      case round =>
        obtain ⟨t, ht, rfl, hown, hbel⟩ := hrel
        have HOWN : Hid (OwnV 5 wr wa.heap.size u9 (ncells .u8 (wholeL l L t))) := hown
        have HBQ : Hid (Below wa.heap.size wa wr) := hbel
        clear hown hwl0
        by_cases hlt2 : t < k
        · have p1 : (t : Int) < (k : Int) := by omega
          clear hbel
          go_wp2_with fail
          refine (countsAt_any _ (xsOf l) t _ (HNU.out.below HBQ.out)).mono ?_
          rintro e w3 ⟨bx, bt, rfl, hcl, hb3⟩
          have HB3 : Hid (Below wr.heap.size wr w3) := hb3
          have HCL : Hid (Clos w3 bx bt (xsOf l) t) := hcl
          clear hcl hb3
          go_wp2_with fail
          refine (mixB_any _ (psOf l) L bx bt (xsOf l) t _ ((HLI.out.below HBQ.out).below HB3.out) (by rw [HPN.out]; omega) HPL.out HPE2.out HCL.out HXE.out (by have := HN.out; omega) (by rw [HPN.out, HXN.out]; exact Nat.le_refl _) (by rw [HXN.out]; omega) (by omega)).mono ?_
          rintro e w4 ⟨rfl, hr4, hb4⟩
          have HR4 : Hid (HasRow w4 w3.heap.size (ncells .u8 (mixed (weight (xsOf l) t) (psOf l) L)) 5) := hr4
          have hb34 : Below wr.heap.size wr w4 := bstep HB3.out hb4
          have HB4 : Hid (Below wa.heap.size wa w4) := bstep HBQ.out hb34
          have HO4 : Hid (OwnV 5 w4 wa.heap.size u9 (ncells .u8 (wholeL l L t))) := OwnV.below HOWN.out hb34 (Nat.le_refl _)
          have HML : Hid ((ncells .u8 (mixed (weight (xsOf l) t) (psOf l) L)).length = L) := by show _ = _; rw [length_ncells, mixed_len]
          have HM1 : Hid (∀ u ∈ ncells .u8 (mixed (weight (xsOf l) t) (psOf l) L), u.oneCell' = true) := fun u hu => by
            obtain ⟨x, _, rfl⟩ := List.mem_map.1 hu; rfl
          have HWS' : Hid _ := HWS.out t
          have HWL' : Hid ((ncells .u8 (wholeL l L t)).length ≤ 6 * L) := by have h1 := HWL.out t; have h2 := HKL.out t (by have := HN.out; omega); show _ ≤ _; omega
          have hz4 := HB4.out.size
          generalize ncells .u8 (mixed (weight (xsOf l) t) (psOf l) L) = us at *
          generalize ncells .u8 (wholeL l L t) = cs at *
          clear hr4 hb4 hb34
          go_wp2_with (at_builtin; refine wp_vals (by rfl) _ _ _ 5 (.int .u8 0) 1 (by rfl) Join.under Join.info8 rfl (by omega) wa.heap.size u9 cs us ⟨w3.heap.size, 0, none⟩ L L (by rfl) (by rfl) HML.out HO4.out hz4 (fun j u hu => by rw [addr_add0, Mem.cell_of_row HR4.out, hu]) HM1.out (by have := HML.out; omega) (by have := HML.out; have := HWL'.out; omega) ?_; intro v5 w5 ho5 hb5 hz5; have HO5 : Hid _ := ho5; have HB5 : Hid _ := hb5; clear ho5 hb5)
          go_roundw
          case rel => exact ⟨t + 1, by omega, by go_num, by rw [HWS'.out]; exact HO5.out, HB4.out.trans HB5.out⟩
          case measure => simp [intOf]; omega
        · obtain rfl : t = k := by omega
          have hnl := HN.out
          obtain ⟨a9, cap9, hv9, hle9, hc9⟩ := OwnV.cells HOWN.out
          have hln := HWL.out t
          have htl : t * L = l.length * L := by rw [hnl]
          obtain ⟨g9, rfl, _, _⟩ := hc9 0 (by omega)
          have hcs : ∀ i, i < t * L → wr.cell? ⟨g9, i, none⟩ = (ncells .u8 (wholeL l L t))[i]? := fun i hi => by
            obtain ⟨g', hg', c, _⟩ := hc9 i (by omega)
            injection hg' with hg'
            injection hg' with e1 _ _
            subst e1; exact c
          rw [hln] at hv9 hle9
          subst hv9
          have hsl := slice_front 22 Join.under g9 s (t * L) cap9 (by omega) hle9 (s : Int) rfl
          have hwn : (wholeL l L t).length = t * L := wholeL_len _ _ _
          have hcv := conv_nums (W := wr) (v := .slice (some ⟨g9, 0, none⟩) s cap9) (l := (wholeL l L t).take s) ⟨some ⟨g9, 0, none⟩, cap9, by rw [List.length_take, hwn, Nat.min_eq_left (by omega)], fun i hi => ⟨g9, 0, rfl, by
            have hi2 : i < s := by rw [List.length_take] at hi; omega
            rw [Nat.zero_add, hcs i (by omega)]
            have : i < (wholeL l L t).length := by omega
            simp [ncells, this]⟩⟩ (fun x hx => wholeL_els l L t x (List.mem_of_mem_take hx)) (by rw [List.length_take, hwn]; omega)
          obtain ⟨z, hz⟩ := HOUT.out
          rw [hnl, ← hz] at hcv
          have HZ : Hid (z = toB ((wholeL l L l.length).take s)) := hz
          have HEND : Hid (Below w.heap.size w wr) := HBEL.out.trans (HBQ.out.mono HBEL.out.size)
          clear hnl hc9 hln htl hcs hwn hz hbel HOUT
          go_wp2
          go_ret
          exact ⟨ret_strS HZ.out, HEND.out⟩
end Go.Proofs.Ytkanhjafchiikaa.Srt
