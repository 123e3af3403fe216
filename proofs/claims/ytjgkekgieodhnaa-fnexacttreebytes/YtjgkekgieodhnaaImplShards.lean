/- What the program's look at rising shards answers. -/
import Derived.Test.YtjgkekgieodhnaaSortPure
import Derived.Test.YtjgkekgieodhnaaImplCut
import Derived.Deep.QuietTactic
import Derived.BigQuiet
namespace Go.Proofs.Ytjgkekgieodhnaa.Srt
open Go.RowKit Go.Proofs.Ytjgkekgieodhnaa.Mem Go.Proofs.Ytjgkekgieodhnaa.Harn Go.Proofs.Ytjgkekgieodhnaa.Gf

theorem ret_bool {a b : Bool} (h : a = b) : Ending.returned (.bool a) = .returned (.bool b) := by rw [h]
/-- may this be a shard of a text of s bytes, of n and m pieces? -/
def okS (n m s : Nat) (x : E) : Bool := decide (0 ≤ x.1) && decide (x.1 < (n : Int) + m) && decide (x.2.size = plen n s)

/-- are these rising shards those of a text? -/
def rightAt (n m s : Nat) (l : List E) (i : Nat) : Bool := okS n m s (l[i]?.getD dE) && (decide (i = 0) || decide (kat l i ≠ kat l (i - 1)))
def rightB (n m s : Nat) (l : List E) : Bool := (List.range l.length).all (rightAt n m s l)
theorem rightB_no {n m s : Nat} {l : List E} {i : Nat} (hi : i < l.length) (h : rightAt n m s l i = false) : rightB n m s l = false := by
  unfold rightB; rw [List.all_eq_false]; exact ⟨i, by simpa using hi, by simp [h]⟩
theorem rightB_yes {n m s : Nat} {l : List E} (h : ∀ i, i < l.length → rightAt n m s l i = true) : rightB n m s l = true := by
  unfold rightB; rw [List.all_eq_true]; intro i hi; exact h i (by simpa using hi)
end Go.Proofs.Ytjgkekgieodhnaa.Srt
