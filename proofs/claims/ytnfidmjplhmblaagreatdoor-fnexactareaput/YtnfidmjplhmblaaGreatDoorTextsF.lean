/- Laws that the proof rests on, put together: 'append(xs, x)' for pending writes: one that has no room, one that owns its row. What the model's DiskNew and l03Ill answer. -/
import Derived.Test.YtnfidmjplhmblaaGreatDoorSpecCopy
import Derived.Test.YtnfidmjplhmblaaGreatDoorTextsE
/- 'append(xs, x)' for pending writes: one that has no room, one that owns its row. -/
namespace Go.Proofs.YtnfidmjplhmblaaGreatDoor.Disk
open Go.RowKit Go.Proofs.YtnfidmjplhmblaaGreatDoor.Mem Go.Proofs.YtnfidmjplhmblaaGreatDoor.Harn

theorem pcells_snoc (l : List (Int × ByteArray)) (y : Int × ByteArray) : pcells (l ++ [y]) = pcells l ++ [.int .i64 y.1, .string y.2] := by
  induction l with
  | nil => rfl
  | cons z l ih => simp [pcells, ih]
theorem pends_of_own {W : World} {base g cap : Nat} {lp : List (Int × ByteArray)} (h : W.ownsRow base 76 2 (.slice (some ⟨g, 0, none⟩) lp.length cap) lp.length (pcells lp)) : PendsAt W g 0 lp := fun j hj => by
  obtain ⟨q1, q2⟩ := pcells_at lp j hj
  rw [Nat.zero_add]
  exact ⟨(h.cellAt (j * 2) (by omega)).trans q1, (h.cellAt (j * 2 + 1) (by omega)).trans q2, h.frozenAt _, h.frozenAt _⟩
/-- A list of pending writes that owns its row, or is nil. -/
def OwnP (W : World) (base : Nat) (v : Value) (l : List (Int × ByteArray)) : Prop := W.ownsRow base 76 2 v l.length (pcells l)
theorem OwnP.pends {W : World} {base : Nat} {v : Value} {l : List (Int × ByteArray)} (h : OwnP W base v l) : Pends W v l := by
  have h0 := h
  rcases h.2 with ⟨rfl, hn⟩ | ⟨g, cap, cur, rfl, _⟩
  · exact ⟨none, 0, by rw [hn], fun j hj => by omega⟩
  · exact (pends_of_own h0).pends cap
theorem ownP_nil (W : World) (base : Nat) : OwnP W base (.slice none 0 0) [] := World.ownsRow_nil _ _ _ _
theorem OwnP.same {W W' : World} {base B : Nat} {v : Value} {l : List (Int × ByteArray)} (h : OwnP W base v l) (hb : ∀ g, v.ownBlock = some g → W'.heap[g]? = W.heap[g]?) (hB : B ≤ base) : OwnP W' B v l := by
  obtain ⟨h1, h2⟩ := h
  refine ⟨h1, ?_⟩
  rcases h2 with ⟨rfl, h2⟩ | ⟨g, cap, cur, rfl, e2, e3, e4⟩
  · exact .inl ⟨rfl, h2⟩
  · exact .inr ⟨g, cap, cur, rfl, by omega, (hb g rfl).trans e3, e4⟩
theorem OwnP.lt {W : World} {base : Nat} {v : Value} {l : List (Int × ByteArray)} (h : OwnP W base v l) : ∀ g, v.ownBlock = some g → base ≤ g ∧ g < W.heap.size := World.ownsRow.lt h
theorem OwnP.below {W W' : World} {base B : Nat} {v : Value} {l : List (Int × ByteArray)} (h : OwnP W base v l) (hb : Below W.heap.size W W') (hB : B ≤ base) : OwnP W' B v l := h.same (fun g hg => hb.block g (h.lt g hg).2) hB
theorem OwnP.setCell {W : World} {base : Nat} {v : Value} {l : List (Int × ByteArray)} (h : OwnP W base v l) {a : Addr} (ha : v.ownBlock ≠ some a.block) (u : Value) : OwnP (W.setCell a u) base v l := h.same (fun g hg => Below.heap_setCell _ _ _ _ (fun e => ha (by rw [← e]; exact hg))) (Nat.le_refl _)
theorem add_zero_addr (b j : Nat) : (⟨b, 0, none⟩ : Addr).add j = ⟨b, j, none⟩ := by unfold Addr.add; split <;> simp_all
theorem news_of {W : World} {b : Nat} {x : Int} {t : ByteArray} (h0 : W.cell? ⟨b, 0, none⟩ = some (.int .i64 x)) (h1 : W.cell? ⟨b, 1, none⟩ = some (.string t)) : ∀ j u, ([.int .i64 x, .string t] : List Value)[j]? = some u → W.cell? ((⟨b, 0, none⟩ : Addr).add j) = some u := fun j u hu => by
  rw [add_zero_addr]
  rcases j with _ | _ | j
  · simp at hu; rw [h0, hu]
  · simp at hu; rw [h1, hu]
  · simp at hu
theorem olds_of {W : World} {g : Nat} {lp : List (Int × ByteArray)} (h : PendsAt W g 0 lp) : ∀ j u, (pcells lp)[j]? = some u → W.cell? ((⟨g, 0, none⟩ : Addr).add j) = some u := fun j u hu => by
  have hl := length_pcells lp
  have hj : j < (pcells lp).length := by
    rcases Nat.lt_or_ge j (pcells lp).length with h | h
    · exact h
    · rw [List.getElem?_eq_none h] at hu; cases hu
  obtain ⟨q1, q2⟩ := pcells_at lp (j / 2) (by omega)
  obtain ⟨c1, c2, _, _⟩ := h (j / 2) (by omega)
  rw [add_zero_addr]
  rw [Nat.zero_add] at c1 c2
  by_cases hp : j % 2 = 0
  · rw [show j / 2 * 2 = j by omega] at q1 c1
    rw [c1, ← q1, hu]
  · rw [show j / 2 * 2 + 1 = j by omega] at q2 c2
    rw [c2, ← q2, hu]

/-- Behind a list that has no room: in a block of its own. -/
theorem app_one (ty : TypeId) (g b : Nat) (lp : List (Int × ByteArray)) (x : Int) (t : ByteArray) (W : World) (h : PendsAt W g 0 lp) (h0 : W.cell? ⟨b, 0, none⟩ = some (.int .i64 x)) (h1 : W.cell? ⟨b, 1, none⟩ = some (.string t)) (hn : lp.length ≤ 1100000) :
    ∃ g' cap W1, (Builtin.append_ #[27, 27] ty #[.slice (some ⟨g, 0, none⟩) lp.length lp.length, .slice (some ⟨b, 0, none⟩) 1 1]).run Tryz.prog W = .ok (.slice (some ⟨g', 0, none⟩) (lp.length + 1) cap) W1 ∧ W1.ownsRow W.heap.size 76 2 (.slice (some ⟨g', 0, none⟩) (lp.length + 1) cap) (lp.length + 1) (pcells (lp ++ [(x, t)])) ∧ W.heap.size ≤ g' ∧ g' < W1.heap.size ∧ Below W.heap.size W W1 := by
  obtain ⟨i, hi0, hz0, hz1, hz2⟩ := info_parts infoPend
  obtain ⟨v', W1, hr, hown, hgr⟩ := run_append_arg_grows (P := Tryz.prog) W 27 ty 76 i (.agg #[.int .i64 0, .string ByteArray.empty]) 2 24 underPends hi0 hz0 hz1 hz2 rfl (by omega) ⟨g, 0, none⟩ lp.length lp.length (pcells lp) (length_pcells lp) (olds_of h) ⟨b, 0, none⟩ 1 1 [.int .i64 x, .string t] rfl (news_of h0 h1) (by omega) (by unfold maxLen; omega) (by omega)
  have hown0 := hown
  rcases hown.2 with ⟨_, h0⟩ | ⟨g', cap, cur, rfl, hb, hg, _⟩
  · omega
  · refine ⟨g', cap, W1, hr, by rw [pcells_snoc]; exact hown0, hb, ?_, bel_grown hgr⟩
    rcases Nat.lt_or_ge g' W1.heap.size with hlt | hge
    · exact hlt
    · rw [Array.getElem?_eq_none hge] at hg; cases hg

/-- Behind a list that owns its row, or is nil. -/
theorem app_own (ty : TypeId) (base b : Nat) (v : Value) (lp : List (Int × ByteArray)) (x : Int) (t : ByteArray) (W : World) (h : W.ownsRow base 76 2 v lp.length (pcells lp)) (hbase : base ≤ W.heap.size) (h0 : W.cell? ⟨b, 0, none⟩ = some (.int .i64 x)) (h1 : W.cell? ⟨b, 1, none⟩ = some (.string t)) (hn : lp.length ≤ 1100000) :
    ∃ g' cap W1, (Builtin.append_ #[27, 27] ty #[v, .slice (some ⟨b, 0, none⟩) 1 1]).run Tryz.prog W = .ok (.slice (some ⟨g', 0, none⟩) (lp.length + 1) cap) W1 ∧ W1.ownsRow base 76 2 (.slice (some ⟨g', 0, none⟩) (lp.length + 1) cap) (lp.length + 1) (pcells (lp ++ [(x, t)])) ∧ (v.ownBlock = some g' ∨ g' = W.heap.size) ∧ g' < W1.heap.size ∧ W.grownBy W1 v.ownBlock := by
  obtain ⟨i, hi0, hz0, hz1, hz2⟩ := info_parts infoPend
  obtain ⟨g', cap, W1, hr, hown, hgr, hat, hlt⟩ := run_append_lies (P := Tryz.prog) W 27 ty base 76 i (.agg #[.int .i64 0, .string ByteArray.empty]) 2 24 underPends hi0 hz0 hz1 hz2 rfl (by omega) v lp.length (pcells lp) h ⟨b, 0, none⟩ 1 1 [.int .i64 x, .string t] rfl (news_of h0 h1) (by simp [Value.oneCell']) (by omega) (by unfold maxLen; omega) (by omega) hbase W.heap.size rfl
  exact ⟨g', cap, W1, hr, by rw [pcells_snoc]; exact hown, hat, hlt, hgr⟩

/-- Either of them: a list of the call's own, of which it is known that it has no room, or that it owns its row. -/
theorem app_any (ty : TypeId) (base g c b : Nat) (lp : List (Int × ByteArray)) (x : Int) (t : ByteArray) (W : World) (h : PendsAt W g 0 lp) (ho : c = lp.length ∨ W.ownsRow base 76 2 (.slice (some ⟨g, 0, none⟩) lp.length c) lp.length (pcells lp)) (hbase : base ≤ W.heap.size) (h0 : W.cell? ⟨b, 0, none⟩ = some (.int .i64 x)) (h1 : W.cell? ⟨b, 1, none⟩ = some (.string t)) (hn : lp.length ≤ 1100000) :
    ∃ g' cap W1, (Builtin.append_ #[27, 27] ty #[.slice (some ⟨g, 0, none⟩) lp.length c, .slice (some ⟨b, 0, none⟩) 1 1]).run Tryz.prog W = .ok (.slice (some ⟨g', 0, none⟩) (lp.length + 1) cap) W1 ∧ PendsAt W1 g' 0 (lp ++ [(x, t)]) ∧ (g' = g ∨ g' ≥ W.heap.size) ∧ g' < W1.heap.size ∧ Only (fun k => k = g) W W1 ∧ OwnP W1 base (.slice (some ⟨g', 0, none⟩) (lp.length + 1) cap) (lp ++ [(x, t)]) := by
  have hle : (lp ++ [(x, t)]).length = lp.length + 1 := by simp
  rcases ho with rfl | ho
  · obtain ⟨g', cap, W1, hr, a1, a2, a3, a4⟩ := app_one ty g b lp x t W h h0 h1 hn
    exact ⟨g', cap, W1, hr, pends_of_own (base := W.heap.size) (cap := cap) (by rw [hle]; exact a1), .inr a2, a3, Only.of_below _ a4, by unfold OwnP; rw [hle]; exact own_below a1 rfl hbase⟩
  · obtain ⟨g', cap, W1, hr, a1, a2, a3, a4⟩ := app_own ty base b _ lp x t W ho hbase h0 h1 hn
    refine ⟨g', cap, W1, hr, pends_of_own (base := base) (cap := cap) (by rw [hle]; exact a1), ?_, a3, Only.of_grown a4 rfl, by unfold OwnP; rw [hle]; exact a1⟩
    rcases a2 with a2 | a2
    · exact .inl (Option.some.inj a2).symm
    · exact .inr (by omega)
end Go.Proofs.YtnfidmjplhmblaaGreatDoor.Disk

/- What the model's DiskNew and l03Ill answer. -/
namespace Go.Proofs.YtnfidmjplhmblaaGreatDoor.Disk
open Go.RowKit Go.Proofs.YtnfidmjplhmblaaGreatDoor.Mem Go.Proofs.YtnfidmjplhmblaaGreatDoor.Harn Go.Proofs.YtnfidmjplhmblaaGreatDoor.DiskP

/-- A call told o; of the disk's pending writes it is known besides that they own their row. -/
def ToldP (w : World) (o : Out) (e : Ending) (w' : World) : Prop := ∃ us up, e = .returned (outV us up o.t o.c) ∧ Own w' w.heap.size w'.heap.size us up o.ls o.lp ∧ Below w.heap.size w w' ∧ OwnP w' w.heap.size up o.lp ∧ (o.lp.length = 0 → up = .slice none 0 0)
def ToldDP (w : World) (ls : List ByteArray) (lp : List (Int × ByteArray)) (e : Ending) (w' : World) : Prop := ∃ us up, e = .returned (.agg #[us, up]) ∧ Own w' w.heap.size w'.heap.size us up ls lp ∧ Below w.heap.size w w' ∧ OwnP w' w.heap.size up lp ∧ (lp.length = 0 → up = .slice none 0 0)
theorem ToldP.told {w : World} {o : Out} {e : Ending} {w' : World} (h : ToldP w o e w') : Told w o e w' := by
  obtain ⟨us, up, h1, h2, h3, _⟩ := h
  exact ⟨us, up, h1, h2, h3⟩
theorem ToldDP.told {w : World} {ls : List ByteArray} {lp : List (Int × ByteArray)} {e : Ending} {w' : World} (h : ToldDP w ls lp e w') : ToldD w ls lp e w' := by
  obtain ⟨us, up, h1, h2, h3, _⟩ := h
  exact ⟨us, up, h1, h2, h3⟩

theorem ill_any (c : Int) (w : World) : Calls Tryz.prog 45 #[.int .i64 c] w fun e w' => e = .returned (outV (.slice none 0 0) (.slice none 0 0) ByteArray.empty c) ∧ Below w.heap.size w w' := by
  go_enter Tryz.func45, Tryz.ntmps45
  go_wp2_with fail
  refine bodyPost_ret (v := outV (.slice none 0 0) (.slice none 0 0) ByteArray.empty c) (by simp [results, Tryz.results45, go_sem]; rfl) rfl ⟨rfl, ?_⟩
  repeat' (first | exact (Below.refl _ _).alloc (Nat.le_refl _) _ | refine Below.setCell ?_ (by simp) _)

end Go.Proofs.YtnfidmjplhmblaaGreatDoor.Disk
