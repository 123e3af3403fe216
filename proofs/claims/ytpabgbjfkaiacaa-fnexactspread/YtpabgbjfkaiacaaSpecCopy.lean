/- What the model's l03Copy answers. -/
import Derived.Test.YtpabgbjfkaiacaaAppFresh
namespace Go.Proofs.Ytpabgbjfkaiacaa.Disk
open Go.RowKit Go.Proofs.Ytpabgbjfkaiacaa.Mem Go.Proofs.Ytpabgbjfkaiacaa.Harn

theorem bA {w W : World} (h : Below w.heap.size w W) (o : Obj) : Below w.heap.size w (W.alloc o) := h.alloc h.size o
theorem bD {w W : World} (h : Below w.heap.size w W) : Below w.heap.size w W.drew := Sha.bel_drewN h 1
theorem bT {w W W1 : World} (h : Below w.heap.size w W) (hb : Below W.heap.size W W1) : Below w.heap.size w W1 := h.trans (hb.mono h.size)

theorem step_strs {w : World} {ops : Array Oper} {o : Oper} {a : Act} {K : Act → World → Prop} {Q : Exit → Act → World → Prop} {E : Prop} (hgd : o.guard = none) (s x : Operand)
    (ho : o.op = .call { callee := .builtin .append, args := #[s, x], argTypes := #[31, 31] }) (g0 : Nat) (v : Value) (ls : List ByteArray) (hs : a.eval s = .slice (some ⟨g0, 0, none⟩) 0 0) (hx : a.eval x = v)
    (h : Strs w v ls) (hn : ls.length ≤ 1100000) (hg0 : g0 < w.heap.size)
    (hK : ∀ g cap w', StrsAt w' g 0 ls → (g = g0 ∨ w.heap.size ≤ g) → g < w'.heap.size → Below w.heap.size w w' → K (a.put o.dst (.slice (some ⟨g, 0, none⟩) ls.length cap)) w') :
    if Region.wanted o (yielded ops a.tmps) = true then Oper.wp Try.prog o a w K Q else E := by
  obtain ⟨g, cap, w', hr, h1, h2, h3, h4⟩ := app_strs o.type g0 v ls w h hn hg0
  exact step_app hgd s x _ ho _ _ _ w' hs hx hr (hK g cap w' h1 h2 h3 h4)
theorem own_below {W W' : World} {base g n cap : Nat} {e : TypeId} {size : Nat} {xs : List Value} {B : Nat} (h : W.ownsRow base e size (.slice (some ⟨g, 0, none⟩) n cap) n xs) (hb : W'.heap[g]? = W.heap[g]?) (hB : B ≤ base) : W'.ownsRow B e size (.slice (some ⟨g, 0, none⟩) n cap) n xs := by
  obtain ⟨h1, h2⟩ := h
  refine ⟨h1, ?_⟩
  rcases h2 with ⟨h2, _⟩ | ⟨g', cap', cur, e1, e2, e3, e4⟩
  · cases h2
  · injection e1 with e1 _ e5
    injection e1 with e1
    injection e1 with e1 _ _
    subst e1 e5
    exact .inr ⟨g, cap, cur, rfl, by omega, hb.trans e3, e4⟩
theorem StrsAt.other {W : World} {g o : Nat} {l : List ByteArray} (h : StrsAt W g o l) {a : Addr} (ha : a.block ≠ g) (v : Value) : StrsAt (W.setCell a v) g o l := fun j hj => by
  obtain ⟨h1, h2⟩ := h j hj
  refine ⟨?_, by simpa using h2⟩
  rw [World.cell?_setCell_other _ _ _ _ (by intro e; exact ha (by rw [e]))]; exact h1

end Go.Proofs.Ytpabgbjfkaiacaa.Disk
