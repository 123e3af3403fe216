/- The law on TreeRight. -/
import Derived.Test.YtfpgobkedfhakaaImplTree2
import Derived.Test.YtfpgobkedfhakaaOpenTree
import Derived.Deep.RegionHeld3
import Derived.Test.YtfpgobkedfhakaaCutCall
namespace Go.Proofs.Ytfpgobkedfhakaa.Tre
open Go.RowKit Go.Proofs.Ytfpgobkedfhakaa.Mem Go.Proofs.Ytfpgobkedfhakaa.Gf Go.Proofs.Ytfpgobkedfhakaa.Harn Go.Proofs.Ytfpgobkedfhakaa.Mark

theorem okF_sizes {l : List Fl} (hz : ∀ y ∈ l, okF y) : ∀ y ∈ l, y.p.size ≤ maxLen ∧ y.d.size ≤ maxLen := fun y hy => ⟨(hz y hy).1, (hz y hy).2.1⟩
theorem cap_self {g o n : Nat} : ∀ a m c, (Value.slice (some ⟨g, o, none⟩) n n) = .slice a m c → m ≤ c := fun a m c e => by injection e; omega
end Go.Proofs.Ytfpgobkedfhakaa.Tre
