/- The line through places of chapter 6 as a function of numbers, and lists of numbers in memory. -/
import Derived.Test.YtfpgobkedfhakaaGfCalls
import Derived.Test.YtfpgobkedfhakaaHarnInts
import Derived.Deep.AppendLies
import Derived.ArgAppend
namespace Go.Proofs.Ytfpgobkedfhakaa.Gf
open Go.RowKit Go.Proofs.Ytfpgobkedfhakaa.Mem

/-- what the value at place i counts at t, the first k places looked at -/
def wt (xs : List Nat) (t i : Nat) : Nat → Nat
  | 0 => 1
  | k + 1 => if k = i then wt xs t i k else mul (wt xs t i k) (mul (t ^^^ xs.getD k 0) (inv (xs.getD i 0 ^^^ xs.getD k 0)))
def weight (xs : List Nat) (t i : Nat) : Nat := wt xs t i xs.length
theorem wt_lt (xs : List Nat) (t i : Nat) : ∀ k, wt xs t i k < 256
  | 0 => by simp [wt]
  | k + 1 => by
    unfold wt; split
    · exact wt_lt xs t i k
    · exact mul_lt (wt_lt xs t i k)
theorem weight_lt (xs : List Nat) (t i : Nat) : weight xs t i < 256 := wt_lt _ _ _ _
def weights (xs : List Nat) (t k : Nat) : List Nat := (List.range k).map (weight xs t)
theorem weights_len (xs : List Nat) (t k : Nat) : (weights xs t k).length = k := by simp [weights]
theorem weights_succ (xs : List Nat) (t k : Nat) : weights xs t (k + 1) = weights xs t k ++ [weight xs t k] := by simp [weights, List.range_succ]
theorem weights_at (xs : List Nat) (t k i : Nat) (h : i < (weights xs t k).length) : (weights xs t k)[i] = weight xs t i := by simp [weights]
/-- the sum of values, each as often as c says; of places from 0 to k -/
def sumTo (c y : Nat → Nat) : Nat → Nat
  | 0 => 0
  | k + 1 => sumTo c y k ^^^ mul (c k) (y k)
theorem sumTo_lt (c y : Nat → Nat) (hc : ∀ i, c i < 256) : ∀ k, sumTo c y k < 256
  | 0 => by simp [sumTo]
  | k + 1 => xor8 (sumTo_lt c y hc k) (mul_lt (hc k))
def line (xs ys : List Nat) (t : Nat) : Nat := sumTo (weight xs t) (fun i => ys.getD i 0) xs.length
def Els (xs : List Nat) : Prop := ∀ x ∈ xs, x < 256
theorem Els.at {xs : List Nat} (h : Els xs) {j : Nat} (hj : j < xs.length) : xs[j] < 256 := h _ (List.getElem_mem hj)

/-- The slice v reads as the numbers xs, each of kind k. -/
def NumsK (k : IntKind) (W : World) (v : Value) (xs : List Nat) : Prop :=
  ∃ a cap, v = .slice a xs.length cap ∧ ∀ j (h : j < xs.length), ∃ b o, a = some ⟨b, o, none⟩ ∧ W.cell? ⟨b, o + j, none⟩ = some (.int k (xs[j] : Nat))
theorem NumsK.below {k : IntKind} {W W' : World} {v : Value} {l : List Nat} (h : NumsK k W v l) (hb : Below W.heap.size W W') : NumsK k W' v l := by
  obtain ⟨a, cap, hv, hc⟩ := h
  refine ⟨a, cap, hv, fun j hj => ?_⟩
  obtain ⟨b, o, ha, hcell⟩ := hc j hj
  refine ⟨b, o, ha, ?_⟩
  rw [hb.cell (World.block_lt_of_cell? W _ hcell)]
  exact hcell
theorem nums_of_ints {W : World} {v : Value} {l : List Int} (h : Harn.Ints W v l) (h0 : ∀ x ∈ l, 0 ≤ x) : NumsK .i64 W v (l.map Int.toNat) := by
  obtain ⟨a, cap, hv, hc⟩ := h
  refine ⟨a, cap, by simpa using hv, fun j hj => ?_⟩
  have hj2 : j < l.length := by simpa using hj
  obtain ⟨b, o, ha, hcell⟩ := hc j hj2
  refine ⟨b, o, ha, ?_⟩
  rw [hcell]
  have := h0 _ (List.getElem_mem hj2)
  simp only [List.getElem_map]
  congr 2; omega
theorem NumsK.shape {k : IntKind} {W : World} {v : Value} {xs : List Nat} (h : NumsK k W v xs) : ∃ a cap, v = .slice a xs.length cap := ⟨_, _, h.choose_spec.choose_spec.1⟩

/-- The cells of numbers. -/
def ncells (k : IntKind) (xs : List Nat) : List Value := xs.map fun x => .int k (x : Nat)
theorem length_ncells (k : IntKind) (xs : List Nat) : (ncells k xs).length = xs.length := by simp [ncells]
theorem ncells_snoc (k : IntKind) (xs : List Nat) (x : Nat) : ncells k (xs ++ [x]) = ncells k xs ++ [.int k (x : Nat)] := by simp [ncells]
/-- A list of numbers that owns its row, or is nil. -/
def OwnN (k : IntKind) (T : TypeId) (W : World) (base : Nat) (v : Value) (xs : List Nat) : Prop := W.ownsRow base T 1 v xs.length (ncells k xs)
theorem OwnN.nums {k : IntKind} {T : TypeId} {W : World} {base : Nat} {v : Value} {xs : List Nat} (h : OwnN k T W base v xs) : NumsK k W v xs := by
  have h0 := h
  rcases h.2 with ⟨rfl, hn⟩ | ⟨g, cap, cur, rfl, _⟩
  · exact ⟨none, 0, by rw [hn], fun j hj => by omega⟩
  · refine ⟨_, cap, rfl, fun j hj => ⟨g, 0, rfl, ?_⟩⟩
    have := World.ownsRow.cellAt h0 j (by omega)
    rw [Nat.zero_add, this]
    simp [ncells, hj]
theorem OwnN.lt {k : IntKind} {T : TypeId} {W : World} {base : Nat} {v : Value} {xs : List Nat} (h : OwnN k T W base v xs) : ∀ g, v.ownBlock = some g → base ≤ g ∧ g < W.heap.size := World.ownsRow.lt h
theorem OwnN.same {k : IntKind} {T : TypeId} {W W' : World} {base B : Nat} {v : Value} {l : List Nat} (h : OwnN k T W base v l) (hb : ∀ g, v.ownBlock = some g → W'.heap[g]? = W.heap[g]?) (hB : B ≤ base) : OwnN k T W' B v l := by
  obtain ⟨h1, h2⟩ := h
  refine ⟨h1, ?_⟩
  rcases h2 with ⟨rfl, h2⟩ | ⟨g, cap, cur, rfl, e2, e3, e4⟩
  · exact .inl ⟨rfl, h2⟩
  · exact .inr ⟨g, cap, cur, rfl, by omega, (hb g rfl).trans e3, e4⟩
theorem OwnN.below {k : IntKind} {T : TypeId} {W W' : World} {base B : Nat} {v : Value} {l : List Nat} (h : OwnN k T W base v l) (hb : Below W.heap.size W W') (hB : B ≤ base) : OwnN k T W' B v l := h.same (fun g hg => hb.block g (h.lt g hg).2) hB
theorem OwnN.drewN {k : IntKind} {T : TypeId} {W : World} {base : Nat} {v : Value} {l : List Nat} (h : OwnN k T W base v l) (n : Nat) : OwnN k T (W.drewN n) base v l := h
theorem ownN_empty (k : IntKind) (T : TypeId) (w : World) (base : Nat) (h : base ≤ w.heap.size) : OwnN k T (w.alloc (.cells #[] T)) base (.slice (some ⟨w.heap.size, 0, none⟩) 0 0) [] :=
  w.ownsRow_made #[] 0 h (by unfold maxLen; omega) (by simp)

theorem addr_add0 (b j : Nat) : (⟨b, 0, none⟩ : Addr).add j = ⟨b, j, none⟩ := by unfold Addr.add; split <;> simp_all
theorem infoI64' : (Try.prog.info? 2).map (fun i => (i.zero, i.size, i.bytes)) = some (some (.int .i64 0), 1, 8) := by kernel_rfl
/-- a call of 'append' whose run is known -/
theorem wp_app1 {P : Program} {w : World} {ops : Array Oper} {rest : List Oper} {o : Oper} {a : Act} {Q : Exit → Act → World → Prop} (hgd : o.guard = none) (s x : Operand) (t : TypeId)
    (ho : o.op = .call { callee := .builtin .append, args := #[s, x], argTypes := #[t, t] }) (v u r : Value) (w' : World) (hs : a.eval s = v) (hx : a.eval x = u)
    (hr : (Builtin.append_ #[t, t] o.type #[v, u]).run P w = .ok r w') (h : wpList P ops Q rest (a.put o.dst r) w') : wpList P ops Q (o :: rest) a w :=
  wpList_plain hgd fun _ hK => by
    unfold Oper.wp execOp
    simp only [ho, resolve, invoke, builtin, Sem.run_bind, Sem.run_pure, Result.andThen_ok, List.map_toArray, List.map_cons, List.map_nil, hs, hx, hr]
    exact hK _ _ h
theorem cell_new (W : World) (v : Value) (T : TypeId) : (W.alloc (.cells #[v] T)).cell? ⟨W.heap.size, 0, none⟩ = some v := by simp
theorem size_new {B : Nat} {W : World} (h : B ≤ W.heap.size) (o : Obj) : B ≤ (W.alloc o).heap.size := by simp; omega
end Go.Proofs.Ytfpgobkedfhakaa.Gf
