/- What the program's kept answers. -/
import Derived.Test.YtnfidmjplhmblaaGreatDoorSpecWrite
namespace Go.Proofs.YtnfidmjplhmblaaGreatDoor.Disk
open Go.RowKit Go.Proofs.YtnfidmjplhmblaaGreatDoor.Mem Go.Proofs.YtnfidmjplhmblaaGreatDoor.Harn Go.Proofs.YtnfidmjplhmblaaGreatDoor.DiskP

theorem wp_own {w : World} {ops : Array Oper} {rest : List Oper} {o : Oper} {a : Act} {Q : Exit → Act → World → Prop} (hgd : o.guard = none) (s x : Operand)
    (ho : o.op = .call { callee := .builtin .append, args := #[s, x], argTypes := #[27, 27] }) (base b : Nat) (v : Value) (lp : List (Int × ByteArray)) (y : Int) (t : ByteArray) (hs : a.eval s = v) (hx : a.eval x = .slice (some ⟨b, 0, none⟩) 1 1)
    (h : OwnP w base v lp) (hbase : base ≤ w.heap.size) (h0 : w.cell? ⟨b, 0, none⟩ = some (.int .i64 y)) (h1 : w.cell? ⟨b, 1, none⟩ = some (.string t)) (hn : lp.length ≤ 1100000)
    (hK : ∀ g cap w', OwnP w' base (.slice (some ⟨g, 0, none⟩) (lp.length + 1) cap) (lp ++ [(y, t)]) → Below base w w' → w.heap.size ≤ w'.heap.size → wpList Tryz.prog ops Q rest (a.put o.dst (.slice (some ⟨g, 0, none⟩) (lp.length + 1) cap)) w') : wpList Tryz.prog ops Q (o :: rest) a w := by
  obtain ⟨g', cap, w', hr, a1, a2, a3, a4⟩ := app_own o.type base b v lp y t w h hbase h0 h1 hn
  refine wp_app hgd s x _ ho _ _ _ w' hs hx hr (hK g' cap w' ?_ ?_ a4.size)
  · unfold OwnP
    rw [List.length_append]
    exact a1
  · exact (Below.refl base w).grown a4 hbase (fun j hj => (World.ownsRow.lt h j hj).1)

end Go.Proofs.YtnfidmjplhmblaaGreatDoor.Disk
