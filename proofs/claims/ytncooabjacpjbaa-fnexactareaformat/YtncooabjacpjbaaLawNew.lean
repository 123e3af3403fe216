/- The law on DiskNew. -/
import Derived.Test.YtncooabjacpjbaaSpecNew
import Derived.Test.YtncooabjacpjbaaImplRead
import Derived.Test.YtncooabjacpjbaaLawRight
namespace Go.Proofs.Ytncooabjacpjbaa.Disk
open Go.RowKit Go.Proofs.Ytncooabjacpjbaa.Mem Go.Proofs.Ytncooabjacpjbaa.Harn Go.Proofs.Ytncooabjacpjbaa.DiskP Go.Proofs.Ytncooabjacpjbaa.Mark

theorem length_newD (n : Int) : (newD n).length ≤ 64 := by
  unfold newD
  split
  · simp; omega
  · simp
theorem Box2.only {p : Nat → Prop} {W W' : World} {g : Nat} {vs vp : Value} (h : Box2 W g vs vp) (hg : Only p W W') (hp : ¬ p g) : Box2 W' g vs vp := hg.row h hp
theorem box2_at (w : World) (vs vp : Value) : Box2 (w.alloc (.cells #[vs, vp] 30)) w.heap.size vs vp := Sha.row_new w [vs, vp] 30
theorem Box2.alloc {W : World} {g : Nat} {vs vp : Value} (h : Box2 W g vs vp) (o : Obj) : Box2 (W.alloc o) g vs vp := Sha.row_alloc h o

end Go.Proofs.Ytncooabjacpjbaa.Disk
