/- The law on DiskRight. -/
import Derived.Test.YtpabgbjfkaiacaaImplRight
namespace Go.Proofs.Ytpabgbjfkaiacaa.Disk
open Go.RowKit Go.Proofs.Ytpabgbjfkaiacaa.Mem Go.Proofs.Ytpabgbjfkaiacaa.Harn

theorem size_le_wt {l : List ByteArray} {t : ByteArray} (h : t ∈ l) : t.size ≤ wt l := by
  induction l with
  | nil => cases h
  | cons a l ih =>
    rcases List.mem_cons.1 h with rfl | h
    · unfold wt; omega
    · have := ih h; unfold wt; omega
theorem size_le_wtP {l : List (Int × ByteArray)} {y : Int × ByteArray} (h : y ∈ l) : y.2.size ≤ wtP l := by
  unfold wtP
  exact size_le_wt (List.mem_map_of_mem h)

/-- What is known of a disk that came in. -/
structure Came (w : World) (vs vp : Value) (ls : List ByteArray) (lp : List (Int × ByteArray)) : Prop where
  s : Strs w vs ls
  n : ls.length ≤ maxLen
  t : ∀ t ∈ ls, t.size ≤ maxLen
  p : Pends w vp lp
  m : lp.length ≤ maxLen
  y : ∀ y ∈ lp, y.2.size ≤ maxLen ∧ -9223372036854775808 ≤ y.1 ∧ y.1 ≤ 9223372036854775807

theorem Came.below {W W' : World} {vs vp : Value} {ls : List ByteArray} {lp : List (Int × ByteArray)} (h : Came W vs vp ls lp) (hb : Below W.heap.size W W') : Came W' vs vp ls lp :=
  ⟨Strs.below h.s hb, h.n, h.t, Pends.below h.p hb, h.m, h.y⟩
/-- A disk that is not too great for the laws. -/
structure Fits (ls : List ByteArray) (lp : List (Int × ByteArray)) : Prop where
  n : ls.length ≤ 1100000
  m : lp.length ≤ 1100000
  t : ∀ t ∈ ls, t.size ≤ maxLen
  y : ∀ y ∈ lp, y.2.size ≤ maxLen ∧ -9223372036854775808 ≤ y.1 ∧ y.1 ≤ 9223372036854775807
  t2 : ∀ t ∈ ls, t.size ≤ 2000000
  y2 : ∀ y ∈ lp, y.2.size ≤ 2000000
theorem Came.fits {w : World} {vs vp : Value} {ls : List ByteArray} {lp : List (Int × ByteArray)} (h : Came w vs vp ls lp) (hw : wtD ls lp ≤ 1048576) : Fits ls lp := by
  unfold wtD at hw
  refine ⟨by omega, by omega, h.t, h.y, fun t ht => ?_, fun y hy => ?_⟩
  · have := size_le_wt ht; omega
  · have := size_le_wtP hy; omega

end Go.Proofs.Ytpabgbjfkaiacaa.Disk
