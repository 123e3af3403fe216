/- A list of numbers that came in, opened; a disk that came in, opened. -/
import Derived.Test.YtncooabjacpjbaaLawRight
namespace Go.Proofs.Ytncooabjacpjbaa.Disk
open Go.ChangeShapes Go.WideShapes Go.ChangeAt Go.RowKit Go.Deep Go.Proofs.Ytncooabjacpjbaa.Harn
variable {H : Type} {enc : TypeId × Value → H}

theorem open_came {W : World} {b0 : Nat} {v : Value} {d : DataW H} {ps : List MemPlace} (hv : Value.okWide Try.prog W .any b0 25 v) (h : DataW.Trod enc Try.prog W 0 (fun _ => true) true 25 v d ps) :
    ∃ vs vp ls lp, v = .agg #[vs, vp] ∧ Came W vs vp ls lp := by
  obtain ⟨vs, vp, ls, lp, e, a1, a2, a3, a4, a5, a6⟩ := open_disk hv h
  exact ⟨vs, vp, ls, lp, e, a1, a2, a3, a4, a5, a6⟩

end Go.Proofs.Ytncooabjacpjbaa.Disk
