/- Words on GetText's answers. -/
import Derived.Test.YtkanhjafchiikaaDoorImplGetNum
namespace Go.Proofs.YtkanhjafchiikaaDoor.GetText
open Go.RowKit Go.Proofs.YtkanhjafchiikaaDoor.GetNum

theorem bset {w a : World} (h : Below w.heap.size w a) (o : Nat) (v : Value) : Below w.heap.size w (a.setCell ⟨w.heap.size, o, none⟩ v) := h.setCell (p := ⟨w.heap.size, o, none⟩) (Nat.le_refl _) v

/-- GetNum's answer, at the model's function or the program's. -/
abbrev Gets (f : Nat) (s : ByteArray) (a n p c : Int) (w : World) : Prop :=
  Calls Tryd.prog f #[.string s, .int .i64 a] w fun e w' => e = .returned (.agg #[.int .i64 n, .int .i64 p, .int .i64 c]) ∧ Below w.heap.size w w'
abbrev Texts (f : Nat) (s : ByteArray) (a : Int) (t : ByteArray) (p c : Int) (w : World) : Prop :=
  Calls Tryd.prog f #[.string s, .int .i64 a] w fun e w' => e = .returned (.agg #[.string t, .int .i64 p, .int .i64 c]) ∧ Below w.heap.size w w'

end Go.Proofs.YtkanhjafchiikaaDoor.GetText
