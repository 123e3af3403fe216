/- What the program's TreeRight answers. -/
import Derived.Test.YtjgkekgieodhnaaImplTree
namespace Go.Proofs.Ytjgkekgieodhnaa.Tre
open Go.RowKit Go.Proofs.Ytjgkekgieodhnaa.Mem Go.Proofs.Ytjgkekgieodhnaa.Gf Go.Proofs.Ytjgkekgieodhnaa.Harn Go.Proofs.Ytjgkekgieodhnaa.Mark

theorem ifile_call {l : List Fl} {k : Nat} (h : k < l.length) (hs : ∀ y ∈ l, y.p.size ≤ maxLen ∧ y.d.size ≤ maxLen) : ∀ W, Calls Try.prog 35 #[.agg #[.string l[k].p, .int .i64 l[k].m, .string l[k].d]] W fun e w' => e = .returned (.bool (fileR l[k])) ∧ Below W.heap.size W w' := fun W => implFile_any l[k] W (hs _ (List.getElem_mem h)).2
end Go.Proofs.Ytjgkekgieodhnaa.Tre
