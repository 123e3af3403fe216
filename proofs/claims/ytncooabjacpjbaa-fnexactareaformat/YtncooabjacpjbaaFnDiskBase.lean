/- What the promise on disks leans on: what the calls tell, and the boxes that its walk keeps. -/
import Derived.Test.YtncooabjacpjbaaDiskPure
import Derived.Laws.StructEq
import Derived.Test.YtncooabjacpjbaaLawBase
namespace Go.Proofs.Ytncooabjacpjbaa.DiskP

theorem beqB (t : ByteArray) : (t == t) = true := by rw [beq_toListBytes]; simp
theorem flush_none (ls : List ByteArray) (kp : List Int) : flushD ls (keptD [] kp) = ls := rfl
theorem read_flushed (ls : List ByteArray) (lp : List (Int × ByteArray)) (h0 : ∀ y ∈ lp, 0 ≤ y.1) (k : Nat) (hk : k < ls.length) : readD (flushD ls lp) [] k = readD ls lp k := by
  rw [readD_nil _ k (by rw [length_flushD]; exact hk), flushD_at ls lp h0 k hk]
/-- Is the text at place k the sector's, or one of the first j pending ones' there? -/
def someTo (s t : ByteArray) (k : Nat) (lp : List (Int × ByteArray)) (j : Nat) : Bool := (t == s) || (lp.take j).any (fun y => y.1 == (k : Int) && y.2 == t)
theorem someTo_start (s t : ByteArray) (k : Nat) (lp : List (Int × ByteArray)) : someTo s t k lp 0 = (t == s) := by simp [someTo]
theorem someTo_step (s t : ByteArray) (k : Nat) (lp : List (Int × ByteArray)) (j : Nat) (h : j < lp.length) : someTo s t k lp (j + 1) = (someTo s t k lp j || (lp[j].1 == (k : Int) && lp[j].2 == t)) := by
  unfold someTo
  rw [List.take_succ_eq_append_getElem h, List.any_append]
  simp [Bool.or_assoc]
theorem someTo_end (ls : List ByteArray) (lp : List (Int × ByteArray)) (kp : List Int) (k : Nat) (hk : k < ls.length) : someTo ls[k] (readD ls (keptD lp kp) k) k lp lp.length = true := by
  unfold someTo
  rw [List.take_length]
  cases e : lastOf (keptD lp kp) (k : Int) with
  | none => rw [readD_none e hk, beqB]; rfl
  | some y =>
    obtain ⟨h1, h2⟩ := lastOf_mem e
    rw [readD_some e]
    have : lp.any (fun z => z.1 == (k : Int) && z.2 == y.2) = true := List.any_eq_true.2 ⟨y, keptTo_mem lp kp lp.length y h1, by simp [h2, beqB]⟩
    rw [this]
    simp
end Go.Proofs.Ytncooabjacpjbaa.DiskP

namespace Go.Proofs.Ytncooabjacpjbaa.Disk
open Go.RowKit Go.Proofs.Ytncooabjacpjbaa.Mem Go.Proofs.Ytncooabjacpjbaa.Harn Go.Proofs.Ytncooabjacpjbaa.DiskP

theorem fits_right {ls : List ByteArray} {lp : List (Int × ByteArray)} (h : rightB ls lp = true) : Fits ls lp := by
  obtain ⟨h1, h2, h3, h4, h5⟩ := (right_iff ls lp).1 h
  refine ⟨by omega, by omega, fun t ht => ?_, fun y hy => ?_, fun t ht => ?_, fun y hy => ?_⟩
  · have := h4 t ht; unfold maxLen; omega
  · obtain ⟨a, b, c⟩ := h5 y hy; unfold maxLen; omega
  · have := h4 t ht; omega
  · obtain ⟨a, b, c⟩ := h5 y hy; omega
theorem fits_nil : Fits [] [] := ⟨by simp, by simp, by simp, by simp, by simp, by simp⟩
theorem fits_new (n : Int) : Fits (newD n) [] := by
  unfold newD
  split
  · rename_i h
    refine ⟨by simp; omega, by simp, fun t ht => ?_, by simp, fun t ht => ?_, by simp⟩
    · rw [List.eq_of_mem_replicate ht]; unfold maxLen; simp
    · rw [List.eq_of_mem_replicate ht]; simp
  · exact fits_nil
/-- What a write told, as the promise wants it. -/
structure WroteR (ls : List ByteArray) (lp : List (Int × ByteArray)) (x : Int) (t : ByteArray) (o : Out) : Prop where
  f : Fits o.ls o.lp
  r : o.c = 0 → rightB o.ls o.lp = true
  l : o.c = 0 → o.ls = ls ∧ o.lp = lp ++ [(x, t)]
  d : o.c = 0 → rightB ls lp = true
theorem wrote_ill (ls : List ByteArray) (lp : List (Int × ByteArray)) (x : Int) (t : ByteArray) {c : Int} (h : c ≠ 0) : WroteR ls lp x t (ill c) := ⟨fits_nil, fun e => absurd e h, fun e => absurd e h, fun e => absurd e h⟩
theorem writeO_wrote (ls : List ByteArray) (lp : List (Int × ByteArray)) (x : Int) (t : ByteArray) : WroteR ls lp x t (writeO ls lp x t) := by
  unfold writeO
  split
  · exact wrote_ill _ _ _ _ (by decide)
  · split
    · exact wrote_ill _ _ _ _ (by decide)
    · rename_i h8 hr
      split
      · exact wrote_ill _ _ _ _ (by decide)
      · rename_i hx
        split
        · exact wrote_ill _ _ _ _ (by decide)
        · rename_i h2
          have hr2 : rightB ls lp = true := by cases e : rightB ls lp with | true => rfl | false => exact absurd (.inl e) hr
          have ht : t.size ≤ 64 := by
            rcases Nat.lt_or_ge 64 t.size with h | h
            · exact absurd (.inr h) hr
            · exact h
          have hq : rightB ls (lp ++ [(x, t)]) = true := by
            rw [right_iff] at hr2 ⊢
            obtain ⟨a1, a2, a3, a4, a5⟩ := hr2
            refine ⟨a1, a2, by simp; omega, a4, fun y hy => ?_⟩
            rcases List.mem_append.1 hy with h | h
            · exact a5 y h
            · rw [List.mem_singleton.1 h]; exact ⟨by simp only; omega, by simp only; omega, ht⟩
          exact ⟨fits_right hq, fun _ => hq, fun _ => ⟨rfl, rfl⟩, fun _ => hr2⟩
theorem flush_right {ls : List ByteArray} {lq lp : List (Int × ByteArray)} (h : rightB ls lp = true) (hs : ∀ y ∈ lq, y ∈ lp) : rightB (flushD ls lq) [] = true := by
  rw [right_iff] at h ⊢
  obtain ⟨a1, a2, a3, a4, a5⟩ := h
  refine ⟨by rw [length_flushD]; exact a1, by rw [length_flushD]; exact a2, by simp, ?_, by simp⟩
  have key : ∀ lq : List (Int × ByteArray), (∀ y ∈ lq, y ∈ lp) → ∀ t ∈ flushD ls lq, t.size ≤ 64 := by
    refine snoc_ind (fun _ => a4) (fun l z ih h t ht => ?_)
    rw [flushD_snoc] at ht
    rcases List.mem_or_eq_of_mem_set ht with h1 | h1
    · exact ih (fun y hy => h y (by simp [hy])) t h1
    · rw [h1]; exact (a5 z (h z (by simp))).2.2
  exact key lq hs
/-- What a flush told. -/
structure FlushedR (ls : List ByteArray) (lp : List (Int × ByteArray)) (o : Out) : Prop where
  f : Fits o.ls o.lp
  r : o.c = 0 → rightB o.ls o.lp = true
  l : o.c = 0 → o.ls = flushD ls lp ∧ o.lp = []
  d : o.c = 0 → rightB ls lp = true
theorem flushO_flushed (ls : List ByteArray) (lp : List (Int × ByteArray)) : FlushedR ls lp (flushO ls lp) := by
  unfold flushO
  split
  · rename_i h
    have hq := flush_right h (lq := lp) (fun _ h => h)
    exact ⟨fits_right hq, fun _ => hq, fun _ => ⟨rfl, rfl⟩, fun _ => h⟩
  · exact ⟨fits_nil, fun e => absurd e (by decide), fun e => absurd e (by decide), fun e => absurd e (by decide)⟩
theorem crashO_fits {ls : List ByteArray} {lp : List (Int × ByteArray)} (kp : List Int) (h : Fits ls lp) : Fits (crashO ls lp kp).1 (crashO ls lp kp).2 := by
  unfold crashO
  split
  · exact fits_nil
  · split
    · rename_i h1 h2
      exact fits_right (flush_right h2 (fun y hy => keptTo_mem lp kp _ y hy))
    · exact h
/-- What a read told. -/
theorem readO_read {ls : List ByteArray} {lp : List (Int × ByteArray)} (x : Int) (h : Fits ls lp) : Fits (readO ls lp x).ls (readO ls lp x).lp ∧ ((readO ls lp x).c = 0 → rightB (readO ls lp x).ls (readO ls lp x).lp = true) := by
  unfold readO
  split
  · rename_i h1
    split
    · exact ⟨h, fun _ => h1⟩
    · exact ⟨fits_nil, fun e => absurd e (by decide)⟩
  · exact ⟨fits_nil, fun e => absurd e (by decide)⟩

/-- A box that holds a disk, and the disk. -/
structure BoxD (W : World) (g : Nat) (va : Option Addr) (ca : Nat) (vb : Option Addr) (cb : Nat) (ls : List ByteArray) (lp : List (Int × ByteArray)) : Prop where
  b : Box2 W g (.slice va ls.length ca) (.slice vb lp.length cb)
  s : Strs W (.slice va ls.length ca) ls
  p : Pends W (.slice vb lp.length cb) lp
  z : g < W.heap.size
theorem BoxD.below {W W' : World} {g : Nat} {va : Option Addr} {ca : Nat} {vb : Option Addr} {cb : Nat} {ls : List ByteArray} {lp : List (Int × ByteArray)} (h : BoxD W g va ca vb cb ls lp) (hb : Below W.heap.size W W') : BoxD W' g va ca vb cb ls lp :=
  ⟨h.b.below hb h.z, h.s.below hb, h.p.below hb, Nat.lt_of_lt_of_le h.z hb.size⟩
theorem boxD_new {w : World} {va : Option Addr} {ca : Nat} {vb : Option Addr} {cb : Nat} {ls : List ByteArray} {lp : List (Int × ByteArray)} (hs : Strs w (.slice va ls.length ca) ls) (hp : Pends w (.slice vb lp.length cb) lp) : BoxD (w.alloc (.cells #[.slice va ls.length ca, .slice vb lp.length cb] 30)) w.heap.size va ca vb cb ls lp :=
  ⟨Sha.row_new w [.slice va ls.length ca, .slice vb lp.length cb] 30, hs.below (bself _), hp.below (bself _), by simp⟩
/-- A box that holds what a call told. -/
structure BoxT (W : World) (g : Nat) (va : Option Addr) (ca : Nat) (vb : Option Addr) (cb : Nat) (ls : List ByteArray) (lp : List (Int × ByteArray)) (t : ByteArray) (c : Int) : Prop where
  b : BoxO W g (.slice va ls.length ca) (.slice vb lp.length cb) t c
  s : Strs W (.slice va ls.length ca) ls
  p : Pends W (.slice vb lp.length cb) lp
  z : g < W.heap.size
theorem BoxT.below {W W' : World} {g : Nat} {va : Option Addr} {ca : Nat} {vb : Option Addr} {cb : Nat} {ls : List ByteArray} {lp : List (Int × ByteArray)} {t : ByteArray} {c : Int} (h : BoxT W g va ca vb cb ls lp t c) (hb : Below W.heap.size W W') : BoxT W' g va ca vb cb ls lp t c :=
  ⟨h.b.below hb h.z, h.s.below hb, h.p.below hb, Nat.lt_of_lt_of_le h.z hb.size⟩
theorem boxT_new {w : World} {va : Option Addr} {ca : Nat} {vb : Option Addr} {cb : Nat} {ls : List ByteArray} {lp : List (Int × ByteArray)} (t : ByteArray) (c : Int) (hs : Strs w (.slice va ls.length ca) ls) (hp : Pends w (.slice vb lp.length cb) lp) : BoxT (w.alloc (.cells #[.slice va ls.length ca, .slice vb lp.length cb, .string t, .int .i64 c] 49)) w.heap.size va ca vb cb ls lp t c :=
  ⟨boxO_at w _ _ t c, hs.below (bself _), hp.below (bself _), by simp⟩
/-- All that the walk keeps, in one world. -/
structure Six (w V : World) (g5 g8 g9 g11 g12 g14 : Nat) (dA xA eA cA fA gA dB xB eB cB fB gB : Option Addr) (da xa ea ca fa ga db xb eb cb fb gb : Nat) (dl xl el cl fl gl : List ByteArray) (dp xp ep cp fp gp : List (Int × ByteArray)) (xt ft : ByteArray) (xc fc : Int) (vk : Value) (kp : List Int) : Prop where
  B : Below w.heap.size w V
  d : BoxD V g5 dA da dB db dl dp
  x : BoxT V g8 xA xa xB xb xl xp xt xc
  e : BoxD V g9 eA ea eB eb el ep
  c : BoxD V g11 cA ca cB cb cl cp
  f : BoxT V g12 fA fa fB fb fl fp ft fc
  g : BoxD V g14 gA ga gB gb gl gp
  k : Ints V vk kp
theorem six_mk {w V : World} {g5 g8 g9 g11 g12 g14 : Nat} {dA xA eA cA fA gA dB xB eB cB fB gB : Option Addr} {da xa ea ca fa ga db xb eb cb fb gb : Nat} {dl xl el cl fl gl : List ByteArray} {dp xp ep cp fp gp : List (Int × ByteArray)} {xt ft : ByteArray} {xc fc : Int} {vk : Value} {kp : List Int}
    (B : Below w.heap.size w V) (d : BoxD V g5 dA da dB db dl dp) (x : BoxT V g8 xA xa xB xb xl xp xt xc) (e : BoxD V g9 eA ea eB eb el ep) (c : BoxD V g11 cA ca cB cb cl cp) (f : BoxT V g12 fA fa fB fb fl fp ft fc) (g : BoxD V g14 gA ga gB gb gl gp) (k : Ints V vk kp) :
    Six w V g5 g8 g9 g11 g12 g14 dA xA eA cA fA gA dB xB eB cB fB gB da xa ea ca fa ga db xb eb cb fb gb dl xl el cl fl gl dp xp ep cp fp gp xt ft xc fc vk kp := ⟨B, d, x, e, c, f, g, k⟩
theorem Six.below {w V W : World} {g5 g8 g9 g11 g12 g14 : Nat} {dA xA eA cA fA gA dB xB eB cB fB gB : Option Addr} {da xa ea ca fa ga db xb eb cb fb gb : Nat} {dl xl el cl fl gl : List ByteArray} {dp xp ep cp fp gp : List (Int × ByteArray)} {xt ft : ByteArray} {xc fc : Int} {vk : Value} {kp : List Int}
    (h : Six w V g5 g8 g9 g11 g12 g14 dA xA eA cA fA gA dB xB eB cB fB gB da xa ea ca fa ga db xb eb cb fb gb dl xl el cl fl gl dp xp ep cp fp gp xt ft xc fc vk kp) (hb : Below V.heap.size V W) :
    Six w W g5 g8 g9 g11 g12 g14 dA xA eA cA fA gA dB xB eB cB fB gB da xa ea ca fa ga db xb eb cb fb gb dl xl el cl fl gl dp xp ep cp fp gp xt ft xc fc vk kp := ⟨bT h.B hb, h.d.below hb, h.x.below hb, h.e.below hb, h.c.below hb, h.f.below hb, h.g.below hb, h.k.below hb⟩
theorem six_cells {w V W : World} {g5 g8 g9 g11 g12 g14 : Nat} {dA xA eA cA fA gA dB xB eB cB fB gB : Option Addr} {da xa ea ca fa ga db xb eb cb fb gb : Nat} {dl xl el cl fl gl : List ByteArray} {dp xp ep cp fp gp : List (Int × ByteArray)} {xt ft : ByteArray} {xc fc : Int} {vk : Value} {kp : List Int}
    (h : Six w V g5 g8 g9 g11 g12 g14 dA xA eA cA fA gA dB xB eB cB fB gB da xa ea ca fa ga db xb eb cb fb gb dl xl el cl fl gl dp xp ep cp fp gp xt ft xc fc vk kp) (hb : Below V.heap.size V W) :
    W.cell? ⟨g5, 0, none⟩ = some (.slice dA dl.length da) ∧ W.cell? ⟨g5, 1, none⟩ = some (.slice dB dp.length db) ∧
    W.cell? ⟨g8, 0, none⟩ = some (.slice xA xl.length xa) ∧ W.cell? ⟨g8, 1, none⟩ = some (.slice xB xp.length xb) ∧ W.cell? ⟨g8, 2, none⟩ = some (.string xt) ∧ W.cell? ⟨g8, 3, none⟩ = some (.int .i64 xc) ∧
    W.cell? ⟨g9, 0, none⟩ = some (.slice eA el.length ea) ∧ W.cell? ⟨g9, 1, none⟩ = some (.slice eB ep.length eb) ∧
    W.cell? ⟨g11, 0, none⟩ = some (.slice cA cl.length ca) ∧ W.cell? ⟨g11, 1, none⟩ = some (.slice cB cp.length cb) ∧
    W.cell? ⟨g12, 0, none⟩ = some (.slice fA fl.length fa) ∧ W.cell? ⟨g12, 1, none⟩ = some (.slice fB fp.length fb) ∧ W.cell? ⟨g12, 2, none⟩ = some (.string ft) ∧ W.cell? ⟨g12, 3, none⟩ = some (.int .i64 fc) ∧
    W.cell? ⟨g14, 0, none⟩ = some (.slice gA gl.length ga) ∧ W.cell? ⟨g14, 1, none⟩ = some (.slice gB gp.length gb) := by
  have h := h.below hb
  obtain ⟨a1, a2, _⟩ := h.d.b.cells
  obtain ⟨b1, b2, b3, b4⟩ := h.x.b.cells
  obtain ⟨c1, c2, _⟩ := h.e.b.cells
  obtain ⟨d1, d2, _⟩ := h.c.b.cells
  obtain ⟨e1, e2, e3, e4⟩ := h.f.b.cells
  obtain ⟨f1, f2, _⟩ := h.g.b.cells
  exact ⟨a1, a2, b1, b2, b3, b4, c1, c2, d1, d2, e1, e2, e3, e4, f1, f2⟩
end Go.Proofs.Ytncooabjacpjbaa.Disk
