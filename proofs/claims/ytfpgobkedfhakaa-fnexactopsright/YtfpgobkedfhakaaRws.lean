/- Lists of structs, of n cells each, in memory: for any struct. -/
import Derived.Test.YtfpgobkedfhakaaRowLaws
import Derived.Test.YtfpgobkedfhakaaOwnVals
namespace Go.Proofs.Ytfpgobkedfhakaa.Rws
open Go.RowKit Go.Proofs.Ytfpgobkedfhakaa.Mem Go.Proofs.Ytfpgobkedfhakaa.Gf Go.Proofs.Ytfpgobkedfhakaa.Harn

theorem hidR {p : Prop} (h : p) : Hid p := h
/-- The slice v reads as the rows rs, of n cells each. -/
def Rs (W : World) (n : Nat) (v : Value) (rs : List (List Value)) : Prop :=
  ∃ a cap, v = .slice a rs.length cap ∧ ∀ j (h : j < rs.length), ∃ b o, a = some ⟨b, o, none⟩ ∧ ∀ i (_ : i < n), ∃ u, rs[j][i]? = some u ∧ W.cell? ⟨b, o + j * n + i, none⟩ = some u
theorem Rs.below {W W' : World} {n : Nat} {v : Value} {rs : List (List Value)} (h : Rs W n v rs) (hb : Below W.heap.size W W') : Rs W' n v rs := by
  obtain ⟨a, cap, hv, hc⟩ := h
  refine ⟨a, cap, hv, fun j hj => ?_⟩
  obtain ⟨b, o, ha, hi⟩ := hc j hj
  refine ⟨b, o, ha, fun i hin => ?_⟩
  obtain ⟨u, h1, h2⟩ := hi i hin
  exact ⟨u, h1, (hb.cell (World.block_lt_of_cell? W _ h2)).trans h2⟩
/-- The rows rs lie in block g from place o on, and may be written. -/
def RsAt (W : World) (n g o : Nat) (rs : List (List Value)) : Prop :=
  ∀ j (h : j < rs.length) i (_ : i < n), (∃ u, rs[j][i]? = some u ∧ W.cell? ⟨g, o + j * n + i, none⟩ = some u) ∧ W.frozen? ⟨g, o + j * n + i, none⟩ = false
theorem RsAt.rs {W : World} {n g o : Nat} {rs : List (List Value)} (h : RsAt W n g o rs) (c : Nat) : Rs W n (.slice (some ⟨g, o, none⟩) rs.length c) rs :=
  ⟨_, c, rfl, fun j hj => ⟨g, o, rfl, fun i hi => (h j hj i hi).1⟩⟩
theorem RsAt.below {W W' : World} {n g o : Nat} {rs : List (List Value)} (h : RsAt W n g o rs) (hb : Below W.heap.size W W') : RsAt W' n g o rs := fun j hj i hi => by
  obtain ⟨⟨u, h1, h2⟩, h3⟩ := h j hj i hi
  have hl := World.block_lt_of_cell? W _ h2
  exact ⟨⟨u, h1, (hb.cell hl).trans h2⟩, (hb.frozen hl).trans h3⟩
theorem RsAt.lt {W : World} {n g o : Nat} {rs : List (List Value)} (h : RsAt W n g o rs) (hn : 0 < n) (h0 : 0 < rs.length) : g < W.heap.size := by
  obtain ⟨⟨u, _, h2⟩, _⟩ := h 0 h0 0 hn
  exact World.block_lt_of_cell? W _ h2
theorem addr_ne {g a b : Nat} (h : a ≠ b) : (⟨g, a, none⟩ : Addr) ≠ ⟨g, b, none⟩ := fun e => by injection e with _ e2 _; exact h e2
theorem place_ne {o n j i k q : Nat} (hi : i < n) (hq : q < n) (h : j ≠ k ∨ i ≠ q) : o + j * n + i ≠ o + k * n + q := by
  rcases Nat.lt_trichotomy j k with hl | rfl | hg
  · have := Nat.mul_le_mul_right n (show j + 1 ≤ k from hl)
    rw [Nat.add_mul] at this
    omega
  · rcases h with h | h
    · exact absurd rfl h
    · omega
  · have := Nat.mul_le_mul_right n (show k + 1 ≤ j from hg)
    rw [Nat.add_mul] at this
    omega
theorem RsAt.set {W : World} {n g o : Nat} {rs : List (List Value)} (h : RsAt W n g o rs) {j i : Nat} (hj : j < rs.length) (hi : i < n) (x : Value) : RsAt (W.setCell ⟨g, o + j * n + i, none⟩ x) n g o (rs.set j (rs[j].set i x)) := fun k hk q hq => by
  have hk2 : k < rs.length := by simpa using hk
  obtain ⟨⟨u, h1, h2⟩, h3⟩ := h k hk2 q hq
  obtain ⟨⟨u0, k1, k2⟩, _⟩ := h j hj i hi
  refine ⟨?_, by simpa using h3⟩
  by_cases e : j = k
  · subst e
    by_cases e2 : i = q
    · subst e2
      obtain ⟨hl, _⟩ := List.getElem?_eq_some_iff.1 k1
      refine ⟨x, ?_, World.cell?_setCell_same _ _ _ k2⟩
      rw [List.getElem_set_self, List.getElem?_set_self hl]
    · refine ⟨u, ?_, ?_⟩
      · rw [List.getElem_set_self, List.getElem?_set_ne e2]; exact h1
      · rw [World.cell?_setCell_other _ _ _ _ (addr_ne (place_ne hi hq (.inr e2)))]; exact h2
  · refine ⟨u, ?_, ?_⟩
    · rw [List.getElem_set_ne e]; exact h1
    · rw [World.cell?_setCell_other _ _ _ _ (addr_ne (place_ne hi hq (.inl e)))]; exact h2
theorem RsAt.other {W : World} {n g o : Nat} {rs : List (List Value)} (h : RsAt W n g o rs) (a : Addr) (v : Value) (hg : g ≠ a.block) : RsAt (W.setCell a v) n g o rs := fun j hj i hi => by
  obtain ⟨⟨u, h1, h2⟩, h3⟩ := h j hj i hi
  refine ⟨⟨u, h1, ?_⟩, by simpa using h3⟩
  rw [World.cell?_setCell_other _ _ _ _ (fun e => hg (by rw [e]))]; exact h2
theorem RsAt.grown {W W' : World} {n g o : Nat} {r : Option Nat} {rs : List (List Value)} (h : RsAt W n g o rs) (hg : W.grownBy W' r) (hr : r ≠ some g) : RsAt W' n g o rs := fun j hj i hi => by
  obtain ⟨⟨u, h1, h2⟩, h3⟩ := h j hj i hi
  have hl := World.block_lt_of_cell? W _ h2
  have hb : W'.heap[g]? = W.heap[g]? := hg.block g hl (fun e => hr e.symm)
  refine ⟨⟨u, h1, ?_⟩, ?_⟩
  · rw [← h2]; unfold World.cell?; simp only [hb]
  · rw [← h3]; unfold World.frozen?; simp only [hb]

theorem flat_len {n : Nat} : ∀ (rs : List (List Value)), (∀ r ∈ rs, r.length = n) → rs.flatten.length = rs.length * n
  | [], _ => by simp
  | r :: rs, h => by
    have h1 := flat_len rs fun x hx => h x (by simp [hx])
    have h2 := h r (by simp)
    simp only [List.flatten_cons, List.length_append, h1, h2, List.length_cons, Nat.add_mul]; omega
theorem flat_at {n : Nat} : ∀ (rs : List (List Value)), (∀ r ∈ rs, r.length = n) → ∀ j (h : j < rs.length) i, i < n → rs.flatten[j * n + i]? = rs[j][i]?
  | r :: rs, h, 0, _, i, hi => by
    have h2 := h r (by simp)
    simp only [List.flatten_cons, Nat.zero_mul, Nat.zero_add, List.getElem_cons_zero]
    rw [List.getElem?_append_left (by omega)]
  | r :: rs, h, j + 1, hj, i, hi => by
    have h2 := h r (by simp)
    have h1 := flat_at rs (fun x hx => h x (by simp [hx])) j (by simpa using hj) i hi
    simp only [List.flatten_cons, List.getElem_cons_succ]
    rw [List.getElem?_append_right (by rw [h2, Nat.add_mul]; omega), h2, ← h1]
    congr 1
    rw [Nat.add_mul]; omega
/-- A list of rows that owns its block, or is nil. -/
def OwnR (W : World) (base : Nat) (T : TypeId) (n : Nat) (v : Value) (rs : List (List Value)) : Prop := (∀ r ∈ rs, r.length = n) ∧ W.ownsRow base T n v rs.length rs.flatten
theorem ownR_nil (W : World) (base : Nat) (T : TypeId) (n : Nat) : OwnR W base T n (.slice none 0 0) [] := ⟨by simp, World.ownsRow_nil _ _ _ _⟩
theorem ownR_empty {W : World} {base g : Nat} {T : TypeId} {n : Nat} (hb : base ≤ g) (h : HasRow W g [] T) : OwnR W base T n (.slice (some ⟨g, 0, none⟩) 0 0) [] := ⟨by simp, by simp, .inr ⟨g, 0, #[], rfl, hb, h, by simp, by simp, by simp, by simp⟩⟩
theorem OwnR.lt {W : World} {base : Nat} {T : TypeId} {n : Nat} {v : Value} {rs : List (List Value)} (h : OwnR W base T n v rs) : ∀ g, v.ownBlock = some g → base ≤ g ∧ g < W.heap.size := World.ownsRow.lt h.2
theorem OwnR.same {W W' : World} {base B : Nat} {T : TypeId} {n : Nat} {v : Value} {rs : List (List Value)} (h : OwnR W base T n v rs) (hb : ∀ g, v.ownBlock = some g → W'.heap[g]? = W.heap[g]?) (hB : B ≤ base) : OwnR W' B T n v rs := by
  obtain ⟨h0, h1, h2⟩ := h
  refine ⟨h0, h1, ?_⟩
  rcases h2 with ⟨rfl, h2⟩ | ⟨g, cap, cur, rfl, e2, e3, e4⟩
  · exact .inl ⟨rfl, h2⟩
  · exact .inr ⟨g, cap, cur, rfl, by omega, (hb g rfl).trans e3, e4⟩
theorem OwnR.below {W W' : World} {base B : Nat} {T : TypeId} {n : Nat} {v : Value} {rs : List (List Value)} (h : OwnR W base T n v rs) (hb : Below W.heap.size W W') (hB : B ≤ base) : OwnR W' B T n v rs := h.same (fun g hg => hb.block g (h.lt g hg).2) hB
theorem OwnR.setCell {W : World} {base : Nat} {T : TypeId} {n : Nat} {v : Value} {rs : List (List Value)} (h : OwnR W base T n v rs) {a : Addr} (ha : v.ownBlock ≠ some a.block) (u : Value) : OwnR (W.setCell a u) base T n v rs := h.same (fun g hg => Below.heap_setCell _ _ _ _ (fun e => ha (by rw [← e]; exact hg))) (Nat.le_refl _)
theorem OwnR.form {W : World} {base : Nat} {T : TypeId} {n : Nat} {v : Value} {rs : List (List Value)} (h : OwnR W base T n v rs) : ∃ ad c, v = .slice ad rs.length c := by
  rcases h.2.2 with ⟨rfl, hn⟩ | ⟨g, cap, cur, rfl, _⟩
  · exact ⟨none, 0, by rw [hn]⟩
  · exact ⟨_, _, rfl⟩
theorem OwnR.mk {W : World} {base : Nat} {T : TypeId} {n : Nat} {v : Value} {rs : List (List Value)} (h : OwnR W base T n v rs) : (v = .slice none 0 0 ∧ rs = []) ∨ ∃ g cap, v = .slice (some ⟨g, 0, none⟩) rs.length cap ∧ RsAt W n g 0 rs ∧ base ≤ g ∧ g < W.heap.size ∧ rs.length ≤ cap := by
  have h0 := h
  rcases h.2.2 with ⟨rfl, hn⟩ | ⟨g, cap, cur, rfl, _, _, hc, _⟩
  · exact .inl ⟨rfl, List.length_eq_zero_iff.1 hn⟩
  · have hl := h0.lt g rfl
    refine .inr ⟨g, cap, rfl, fun j hj i hi => ?_, hl.1, hl.2, hc⟩
    have hr := h0.1 _ (List.getElem_mem hj)
    have h1 : W.ownsRow base T n (.slice (some ⟨g, 0, none⟩) rs.length cap) rs.length rs.flatten := h0.2
    have hjn : j * n + i < rs.length * n := by
      have := Nat.mul_le_mul_right n (show j + 1 ≤ rs.length from hj)
      rw [Nat.add_mul] at this
      omega
    have hcell := h1.cellAt (j * n + i) hjn
    have hf := h1.frozenAt (j * n + i)
    rw [flat_at rs h0.1 j hj i hi] at hcell
    rw [Nat.zero_add]
    have hu := List.getElem?_eq_getElem (l := rs[j]) (i := i) (by omega)
    exact ⟨⟨_, hu, hcell.trans hu⟩, hf⟩
theorem OwnR.rs {W : World} {base : Nat} {T : TypeId} {n : Nat} {v : Value} {rs : List (List Value)} (h : OwnR W base T n v rs) : Rs W n v rs := by
  rcases h.mk with ⟨rfl, rfl⟩ | ⟨g, cap, rfl, h, _⟩
  · exact ⟨none, 0, rfl, fun j hj => by simp at hj⟩
  · exact h.rs cap
/-- a struct's type and its lists' type -/
structure Kind (t T : TypeId) (n : Nat) : Prop where
  under : Try.prog.underlying t = some (.slice T)
  info : ∃ z bytes, (Try.prog.info? T).map (fun i => (i.zero, i.size, i.bytes)) = some (some z, n, bytes) ∧ z.cells.size = n ∧ bytes ≤ 256
  pos : 0 < n
theorem run_row {w : World} {t T : TypeId} {n : Nat} (hk : Kind t T n) (ty : TypeId) (base b : Nat) (v : Value) (rs : List (List Value)) (r : List Value) (h : OwnR w base T n v rs) (hbase : base ≤ w.heap.size) (hr : r.length = n) (hc : HasRow w b r T) (h1 : ∀ u ∈ r, u.oneCell' = true) (hn : rs.length ≤ 1000000) :
    ∃ g c w', (Builtin.append_ #[t, t] ty #[v, .slice (some ⟨b, 0, none⟩) 1 1]).run Try.prog w = .ok (.slice (some ⟨g, 0, none⟩) (rs.length + 1) c) w' ∧ OwnR w' base T n (.slice (some ⟨g, 0, none⟩) (rs.length + 1) c) (rs ++ [r]) ∧ w.grownBy w' v.ownBlock ∧ (v.ownBlock = some g ∨ g = w.heap.size) ∧ g < w'.heap.size := by
  obtain ⟨z, bytes, hi, hz, hby⟩ := hk.info
  obtain ⟨i, hi0, hz0, hz1, hz2⟩ := info_parts hi
  have hn0 := hk.pos
  obtain ⟨g', cap, w', hrun, hown, hgr, hat, hlt⟩ := run_append_lies (P := Try.prog) w t ty base T i z n bytes hk.under hi0 hz0 hz1 hz2 hz hn0 v rs.length rs.flatten h.2 ⟨b, 0, none⟩ 1 1 r (by omega) (fun j u hu => by
    have hadd : (⟨b, 0, none⟩ : Addr).add j = ⟨b, j, none⟩ := by unfold Addr.add; split <;> simp_all
    rw [hadd, Mem.cell_of_row hc j, hu]) h1 (by omega) (by unfold maxLen; omega) (by
      have : (rs.length + 1) * bytes ≤ 1000001 * 256 := Nat.mul_le_mul (by omega) hby
      omega) hbase w.heap.size rfl
  refine ⟨g', cap, w', hrun, ⟨?_, ?_⟩, hgr, hat, hlt⟩
  · intro x hx
    rcases List.mem_append.1 hx with hx | hx
    · exact h.1 x hx
    · simp at hx; subst hx; exact hr
  · simpa using hown
/-- 'append(v, Struct{..})' -/
theorem step_row {w : World} {ops : Array Oper} {o : Oper} {a : Act} {K : Act → World → Prop} {Q : Exit → Act → World → Prop} {E : Prop} {t T : TypeId} {n : Nat} (hk : Kind t T n) (hgd : o.guard = none) (s x : Operand)
    (ho : o.op = .call { callee := .builtin .append, args := #[s, x], argTypes := #[t, t] }) (base b : Nat) (v : Value) (rs : List (List Value)) (r : List Value) (hs : a.eval s = v) (hx : a.eval x = .slice (some ⟨b, 0, none⟩) 1 1)
    (h : OwnR w base T n v rs) (hbase : base ≤ w.heap.size) (hr : r.length = n) (hc : HasRow w b r T) (h1 : ∀ u ∈ r, u.oneCell' = true) (hn : rs.length ≤ 1000000)
    (hK : ∀ g c w', OwnR w' base T n (.slice (some ⟨g, 0, none⟩) (rs.length + 1) c) (rs ++ [r]) → w.grownBy w' v.ownBlock → K (a.put o.dst (.slice (some ⟨g, 0, none⟩) (rs.length + 1) c)) w') :
    if Region.wanted o (yielded ops a.tmps) = true then Oper.wp Try.prog o a w K Q else E := by
  obtain ⟨g, c, w', hrun, ho2, hg, _, _⟩ := run_row hk o.type base b v rs r h hbase hr hc h1 hn
  exact step_app hgd s x _ ho _ _ _ w' hs hx hrun (hK g c w' ho2 hg)
theorem wp_row {w : World} {ops : Array Oper} {rest : List Oper} {o : Oper} {a : Act} {Q : Exit → Act → World → Prop} {t T : TypeId} {n : Nat} (hk : Kind t T n) (hgd : o.guard = none) (s x : Operand)
    (ho : o.op = .call { callee := .builtin .append, args := #[s, x], argTypes := #[t, t] }) (base b : Nat) (v : Value) (rs : List (List Value)) (r : List Value) (hs : a.eval s = v) (hx : a.eval x = .slice (some ⟨b, 0, none⟩) 1 1)
    (h : OwnR w base T n v rs) (hbase : base ≤ w.heap.size) (hr : r.length = n) (hc : HasRow w b r T) (h1 : ∀ u ∈ r, u.oneCell' = true) (hn : rs.length ≤ 1000000)
    (hK : ∀ g c w', OwnR w' base T n (.slice (some ⟨g, 0, none⟩) (rs.length + 1) c) (rs ++ [r]) → w.grownBy w' v.ownBlock → wpList Try.prog ops Q rest (a.put o.dst (.slice (some ⟨g, 0, none⟩) (rs.length + 1) c)) w') : wpList Try.prog ops Q (o :: rest) a w := by
  obtain ⟨g, c, w', hrun, ho2, hg, _, _⟩ := run_row hk o.type base b v rs r h hbase hr hc h1 hn
  exact wp_app1 hgd s x _ ho _ _ _ w' hs hx hrun (hK g c w' ho2 hg)
/-- a made list -/
theorem make_rows {t T : TypeId} {n : Nat} (z : Value) (bytes : Nat) (hu : Try.prog.underlying t = some (.slice T)) (hi : (Try.prog.info? T).map (fun i => (i.zero, i.size, i.bytes)) = some (some z, n, bytes)) (hz : z.cells.size = n) (hby : bytes ≤ 256) (m : Nat) (hm : m ≤ 2000000) (w : World) :
    ∃ W1, (Instr.makeSlice t (.int .i64 (m : Int)) (.int .i64 (m : Int))).run Try.prog w = .ok (.slice (some ⟨w.heap.size, 0, none⟩) m m) W1 ∧ RsAt W1 n w.heap.size 0 (List.replicate m z.cells.toList) ∧ Below w.heap.size w W1 ∧ W1.heap.size = w.heap.size + 1 := by
  obtain ⟨i, hi0, hz0, hs, hb⟩ := info_parts hi
  have hmb : m * bytes ≤ 2000000 * 256 := Nat.mul_le_mul hm hby
  have hmb' : (bytes : Int) * (m : Int) ≤ 281474976710656 := by
    rw [Int.mul_comm, show (m : Int) * (bytes : Int) = ((m * bytes : Nat) : Int) by simp]; omega
  have hr := run_make (P := Try.prog) w t T i _ hu hi0 hz0 .i64 .i64 (m : Int) (m : Int) (by omega) (by omega) (by rw [hb]; exact hmb') (by omega)
  simp only [Int.toNat_natCast] at hr
  refine ⟨_, hr, fun j hj q hq => ?_, (Below.refl _ _).alloc (Nat.le_refl _) _, by simp⟩
  have hjm : j < m := by simpa using hj
  rw [hs]
  refine ⟨⟨z.cells[q]'(by omega), ?_, ?_⟩, by simp⟩
  · rw [List.getElem_replicate]; simp
  · have hlt : j * n + q < m * n := by
      have := Nat.mul_le_mul_right n (show j + 1 ≤ m from hjm)
      rw [Nat.add_mul] at this; omega
    have hmod : (j * n + q) % n = q := by rw [Nat.add_comm, Nat.add_mul_mod_self_right, Nat.mod_eq_of_lt hq]
    have hmod2 : (j * n + q) % z.cells.size = q := by rw [hz]; exact hmod
    simp [madeCells, hlt, hmod2, show q < z.cells.size by omega]
end Go.Proofs.Ytfpgobkedfhakaa.Rws
