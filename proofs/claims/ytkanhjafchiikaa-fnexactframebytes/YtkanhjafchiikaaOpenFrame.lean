/- A frame that came in, opened. -/
import Derived.Test.YtkanhjafchiikaaFramePure
import Derived.Test.YtkanhjafchiikaaOpenDisk
namespace Go.Proofs.Ytkanhjafchiikaa.Frm
open Go.ChangeShapes Go.WideShapes Go.ChangeAt Go.RowKit Go.Deep
variable {H : Type} {enc : TypeId × Value → H}

theorem array8 {α : Type} {cs : Array α} (h : cs.size = 8) : ∃ c0 c1 c2 c3 c4 c5 c6 c7, cs = #[c0, c1, c2, c3, c4, c5, c6, c7] := by
  obtain ⟨l⟩ := cs
  match l, h with
  | [c0, c1, c2, c3, c4, c5, c6, c7], _ => exact ⟨c0, c1, c2, c3, c4, c5, c6, c7, rfl⟩
theorem list7 {α : Type} {xs : List α} (h : xs.length = 7) : ∃ c0 c1 c2 c3 c4 c5 c6, xs = [c0, c1, c2, c3, c4, c5, c6] := by
  match xs, h with
  | [c0, c1, c2, c3, c4, c5, c6], _ => exact ⟨c0, c1, c2, c3, c4, c5, c6, rfl⟩

set_option maxRecDepth 100000 in
theorem open_frame {W : World} {b0 : Nat} {v : Value} {d : DataW H} {ps : List MemPlace} (hv : Value.okWide Try.prog W .any b0 46 v) (h : DataW.Trod enc Try.prog W 0 (fun _ => true) true 46 v d ps) :
    ∃ f : Fr, v = f.val ∧ f.t.size ≤ maxLen := by
  have k1 : Try.prog.cellsOf 2 = 1 := by kernel_rfl
  have k2 : Try.prog.cellsOf 44 = 2 := by kernel_rfl
  have k3 : Try.prog.cellsOf 9 = 1 := by kernel_rfl
  obtain ⟨cs, rfl, hsz⟩ := okWide_struct Try.underlying46 hv
  obtain ⟨c0, c1, c2, c3, c4, c5, c6, c7, rfl⟩ := array8 (hsz.trans (by kernel_rfl))
  obtain ⟨fuel, hf⟩ := h
  obtain ⟨xs, n, _, _, _, hlen, hf⟩ := DataW.trod_struct Try.underlying46 hf
  obtain ⟨y0, y1, y2, y3, y4, y5, y6, rfl⟩ := list7 (hlen.trans rfl)
  have h0 : DataW.trod enc Try.prog W 0 (fun _ => true) true n 2 (([c0, c1, c2, c3, c4, c5, c6, c7].drop 0).take (Try.prog.cellsOf 2)) = some y0 := hf 0 _ rfl
  have h1 : DataW.trod enc Try.prog W 0 (fun _ => true) true n 2 (([c0, c1, c2, c3, c4, c5, c6, c7].drop 1).take (Try.prog.cellsOf 2)) = some y1 := hf 1 _ rfl
  have h2 : DataW.trod enc Try.prog W 0 (fun _ => true) true n 2 (([c0, c1, c2, c3, c4, c5, c6, c7].drop 2).take (Try.prog.cellsOf 2)) = some y2 := hf 2 _ rfl
  have h3 : DataW.trod enc Try.prog W 0 (fun _ => true) true n 2 (([c0, c1, c2, c3, c4, c5, c6, c7].drop 3).take (Try.prog.cellsOf 2)) = some y3 := hf 3 _ rfl
  have h4 : DataW.trod enc Try.prog W 0 (fun _ => true) true n 2 (([c0, c1, c2, c3, c4, c5, c6, c7].drop 4).take (Try.prog.cellsOf 2)) = some y4 := hf 4 _ rfl
  have h5 : DataW.trod enc Try.prog W 0 (fun _ => true) true n 2 (([c0, c1, c2, c3, c4, c5, c6, c7].drop 5).take (Try.prog.cellsOf 2)) = some y5 := hf 5 _ rfl
  have h6 : DataW.trod enc Try.prog W 0 (fun _ => true) true n 44 (([c0, c1, c2, c3, c4, c5, c6, c7].drop 6).take (Try.prog.cellsOf 44)) = some y6 := hf 6 _ rfl
  rw [k1] at h0 h1 h2 h3 h4 h5
  rw [k2] at h6
  obtain ⟨x0, e0, _⟩ := DataW.trod_int Try.underlying2 h0
  obtain ⟨x1, e1, _⟩ := DataW.trod_int Try.underlying2 h1
  obtain ⟨x2, e2, _⟩ := DataW.trod_int Try.underlying2 h2
  obtain ⟨x3, e3, _⟩ := DataW.trod_int Try.underlying2 h3
  obtain ⟨x4, e4, _⟩ := DataW.trod_int Try.underlying2 h4
  obtain ⟨x5, e5, _⟩ := DataW.trod_int Try.underlying2 h5
  obtain ⟨z0, z1, n2, _, _, q0, q1⟩ := trod_struct2 Try.underlying44 h6
  have g0 : DataW.trod enc Try.prog W 0 (fun _ => true) true n2 2 (([c6, c7].drop 0).take (Try.prog.cellsOf 2)) = some z0 := q0
  have g1 : DataW.trod enc Try.prog W 0 (fun _ => true) true n2 9 (([c6, c7].drop 1).take (Try.prog.cellsOf 9)) = some z1 := q1
  rw [k1] at g0
  rw [k3] at g1
  obtain ⟨x6, e6, _⟩ := DataW.trod_int Try.underlying2 g0
  obtain ⟨t, e7, _, ht⟩ := DataW.trod_string Try.underlying9 g1
  simp at e0 e1 e2 e3 e4 e5 e6 e7
  subst e0 e1 e2 e3 e4 e5 e6 e7
  exact ⟨⟨x0, x1, x2, x3, x4, x5, x6, t⟩, rfl, ht⟩
end Go.Proofs.Ytkanhjafchiikaa.Frm
