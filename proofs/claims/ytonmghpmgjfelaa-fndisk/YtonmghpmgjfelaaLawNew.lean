/- The law on DiskNew. -/
import Derived.Test.YtonmghpmgjfelaaSpecNew
import Derived.Test.YtonmghpmgjfelaaImplRead
import Derived.Test.YtonmghpmgjfelaaLawRight
namespace Go.Proofs.Ytonmghpmgjfelaa.Disk
open Go.RowKit Go.Proofs.Ytonmghpmgjfelaa.Mem Go.Proofs.Ytonmghpmgjfelaa.Harn Go.Proofs.Ytonmghpmgjfelaa.DiskP Go.Proofs.Ytonmghpmgjfelaa.Mark

theorem length_newD (n : Int) : (newD n).length ≤ 64 := by
  unfold newD
  split
  · simp; omega
  · simp
theorem Box2.only {p : Nat → Prop} {W W' : World} {g : Nat} {vs vp : Value} (h : Box2 W g vs vp) (hg : Only p W W') (hp : ¬ p g) : Box2 W' g vs vp := hg.row h hp
theorem box2_at (w : World) (vs vp : Value) : Box2 (w.alloc (.cells #[vs, vp] 26)) w.heap.size vs vp := Sha.row_new w [vs, vp] 26
theorem Box2.alloc {W : World} {g : Nat} {vs vp : Value} (h : Box2 W g vs vp) (o : Obj) : Box2 (W.alloc o) g vs vp := Sha.row_alloc h o

end Go.Proofs.Ytonmghpmgjfelaa.Disk
