/- The law on TreeRight. -/
import Derived.Test.YtjgkekgieodhnabDoorImplTree2
import Derived.Test.YtjgkekgieodhnabDoorTextsD
import Derived.Deep.RegionHeld3
import Derived.Test.YtjgkekgieodhnabDoorTextsA
namespace Go.Proofs.YtjgkekgieodhnabDoor.Tre
open Go.RowKit Go.Proofs.YtjgkekgieodhnabDoor.Mem Go.Proofs.YtjgkekgieodhnabDoor.Gf Go.Proofs.YtjgkekgieodhnabDoor.Harn Go.Proofs.YtjgkekgieodhnabDoor.Mark

theorem okF_sizes {l : List Fl} (hz : ∀ y ∈ l, okF y) : ∀ y ∈ l, y.p.size ≤ maxLen ∧ y.d.size ≤ maxLen := fun y hy => ⟨(hz y hy).1, (hz y hy).2.1⟩
theorem cap_self {g o n : Nat} : ∀ a m c, (Value.slice (some ⟨g, o, none⟩) n n) = .slice a m c → m ≤ c := fun a m c e => by injection e; omega
end Go.Proofs.YtjgkekgieodhnabDoor.Tre
