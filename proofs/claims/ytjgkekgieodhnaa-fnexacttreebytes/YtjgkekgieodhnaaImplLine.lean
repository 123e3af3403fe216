/- What the program's lineRight answers. -/
import Derived.Test.YtjgkekgieodhnaaLineOk
namespace Go.Proofs.Ytjgkekgieodhnaa.Gf
open Go.RowKit Go.Proofs.Ytjgkekgieodhnaa.Mem

theorem lineOk_yes {xs ys : List Int} {t : Int} (hh : headOk xs ys t = true) (h : ∀ i, i < xs.length → okAt xs ys i = true) : lineOk xs ys t = true := by unfold lineOk; rw [hh, okAll_yes h]; rfl
theorem lineOk_no {xs ys : List Int} {t : Int} {i : Nat} (hi : i < xs.length) (h : okAt xs ys i = false) : lineOk xs ys t = false := by unfold lineOk; rw [okAll_no hi h]; simp
theorem lineOk_head {xs ys : List Int} {t : Int} (h : headOk xs ys t = false) : lineOk xs ys t = false := by unfold lineOk; rw [h]; rfl

end Go.Proofs.Ytjgkekgieodhnaa.Gf
