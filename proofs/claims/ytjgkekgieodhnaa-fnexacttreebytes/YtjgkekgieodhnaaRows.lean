/-
  No cell of these rows narrows 'for every input' (looked for: loops, veiled, ifaces, maps, wideKeys, modest, calm, conditions, laid).
  DERIVED. THE GIVEN ROWS OF THIS SEAT. 5 by the template 'for every input the law returns true; each argument reads behind the call as it read before'; 0 by the template 'total and deterministic' (their statements: YtjgkekgieodhnaaTotals.lean).
  GIVEN WITH THE SEED: the statements are not yours to turn. If you find one false, say at which input.
  Laid BY PROGRAM, IN A SANDBOX (cutbox-rows.mjs): the forced cells as the released guide's own fill.sh prints them over the translation 6242d9ec083acd5d… (all of the seat's roots in one cut). By AI agents, Wed Nov 11 2026. No macro, syntax, notation, axiom, sorry.
-/
import Derived.Test.YtjgkekgieodhnaaChecked
import GoSem.Claim
import GoSem.ClaimJoined
import GoSem.ClaimMapViews
import Derived.JoinedTies
import Derived.KernelRfl
namespace Go.Proofs.Ytjgkekgieodhnaa
/- THE CELL 'sum', in the pinned program and in every row, IS THE sha256 OF THE DUMP (.gsa) THAT YtjgkekgieodhnaaProg.lean LOADS. Nothing in Lean hashes anything: it is a label: what it is worth is what the hold of that sum in a sandbox is worth. -/
noncomputable def Try.pinned : Pinned := { name := "ytjgkekgieodhnaa", sum := "6242d9ec083acd5d82ae4ef7b9d808f5795b7a8699aae7a6fc3b7c2ab467d8e0", checked := Try.checked }
namespace Rows
def none {H : Type} : Left H := { results := [], args := [] }

/-- 'laws.FnExactPathRight': WHATEVER THE INPUT: true; the input reads as it did. -/
def fnExactPathRightSpec : ChangeSpec := { name := "fnExactPathRight", fn := fun _ => fun
  | [d] => { results := [.lit (.bool true)], args := [d] }
  | _ => none }
def fnExactPathRightRow : OpenClaim := { program := "ytjgkekgieodhnaa", sum := "6242d9ec083acd5d82ae4ef7b9d808f5795b7a8699aae7a6fc3b7c2ab467d8e0", func := "loop.example/g00626/laws.FnExactPathRight", spec := "fnExactPathRight", apart := false }
def FnExactPathRightSaid : Prop := fnExactPathRightRow.holds Try.pinned (OpenSpec.ofChange fnExactPathRightSpec)

/-- ITS FALSE NEIGHBOUR: 'it returns false'. Refute it at one input. -/
def fnExactPathRightWrong : ChangeSpec := { name := "fnExactPathRight", fn := fun _ => fun
  | [d] => { results := [.lit (.bool false)], args := [d] }
  | _ => none }
def FnExactPathRightWrongFalsely : Prop := fnExactPathRightRow.holds Try.pinned (OpenSpec.ofChange fnExactPathRightWrong)

/-- 'laws.FnExactTreeRight': WHATEVER THE INPUT: true; the input reads as it did. -/
def fnExactTreeRightSpec : ChangeSpec := { name := "fnExactTreeRight", fn := fun _ => fun
  | [d] => { results := [.lit (.bool true)], args := [d] }
  | _ => none }
def fnExactTreeRightRow : OpenClaim := { program := "ytjgkekgieodhnaa", sum := "6242d9ec083acd5d82ae4ef7b9d808f5795b7a8699aae7a6fc3b7c2ab467d8e0", func := "loop.example/g00626/laws.FnExactTreeRight", spec := "fnExactTreeRight", unfollowed := true, recurses := true, apart := false }
def FnExactTreeRightSaid : Prop := fnExactTreeRightRow.holds Try.pinned (OpenSpec.ofChange fnExactTreeRightSpec)

/-- ITS FALSE NEIGHBOUR: 'it returns false'. Refute it at one input. -/
def fnExactTreeRightWrong : ChangeSpec := { name := "fnExactTreeRight", fn := fun _ => fun
  | [d] => { results := [.lit (.bool false)], args := [d] }
  | _ => none }
def FnExactTreeRightWrongFalsely : Prop := fnExactTreeRightRow.holds Try.pinned (OpenSpec.ofChange fnExactTreeRightWrong)

/-- 'laws.FnExactFileOf': WHATEVER THE INPUT: true; the input reads as it did. -/
def fnExactFileOfSpec : ChangeSpec := { name := "fnExactFileOf", fn := fun _ => fun
  | [d1, d2] => { results := [.lit (.bool true)], args := [d1, d2] }
  | _ => none }
def fnExactFileOfRow : OpenClaim := { program := "ytjgkekgieodhnaa", sum := "6242d9ec083acd5d82ae4ef7b9d808f5795b7a8699aae7a6fc3b7c2ab467d8e0", func := "loop.example/g00626/laws.FnExactFileOf", spec := "fnExactFileOf", unfollowed := true, recurses := true, apart := false }
def FnExactFileOfSaid : Prop := fnExactFileOfRow.holds Try.pinned (OpenSpec.ofChange fnExactFileOfSpec)

/-- ITS FALSE NEIGHBOUR: 'it returns false'. Refute it at one input. -/
def fnExactFileOfWrong : ChangeSpec := { name := "fnExactFileOf", fn := fun _ => fun
  | [d1, d2] => { results := [.lit (.bool false)], args := [d1, d2] }
  | _ => none }
def FnExactFileOfWrongFalsely : Prop := fnExactFileOfRow.holds Try.pinned (OpenSpec.ofChange fnExactFileOfWrong)

/-- 'laws.FnExactTreePut': WHATEVER THE INPUT: true; the input reads as it did. -/
def fnExactTreePutSpec : ChangeSpec := { name := "fnExactTreePut", fn := fun _ => fun
  | [d1, d2] => { results := [.lit (.bool true)], args := [d1, d2] }
  | _ => none }
def fnExactTreePutRow : OpenClaim := { program := "ytjgkekgieodhnaa", sum := "6242d9ec083acd5d82ae4ef7b9d808f5795b7a8699aae7a6fc3b7c2ab467d8e0", func := "loop.example/g00626/laws.FnExactTreePut", spec := "fnExactTreePut", inPlace := ["internal/bytealg.abigen_runtime_cmpstring", "slices.overlaps[loop.example/g00626/impl.File]"], unfollowed := true, recurses := true, apart := false }
def FnExactTreePutSaid : Prop := fnExactTreePutRow.holds Try.pinned (OpenSpec.ofChange fnExactTreePutSpec)

/-- ITS FALSE NEIGHBOUR: 'it returns false'. Refute it at one input. -/
def fnExactTreePutWrong : ChangeSpec := { name := "fnExactTreePut", fn := fun _ => fun
  | [d1, d2] => { results := [.lit (.bool false)], args := [d1, d2] }
  | _ => none }
def FnExactTreePutWrongFalsely : Prop := fnExactTreePutRow.holds Try.pinned (OpenSpec.ofChange fnExactTreePutWrong)

/-- 'laws.FnExactTreeBytes': WHATEVER THE INPUT: true; the input reads as it did. -/
def fnExactTreeBytesSpec : ChangeSpec := { name := "fnExactTreeBytes", fn := fun _ => fun
  | [d] => { results := [.lit (.bool true)], args := [d] }
  | _ => none }
def fnExactTreeBytesRow : OpenClaim := { program := "ytjgkekgieodhnaa", sum := "6242d9ec083acd5d82ae4ef7b9d808f5795b7a8699aae7a6fc3b7c2ab467d8e0", func := "loop.example/g00626/laws.FnExactTreeBytes", spec := "fnExactTreeBytes", unfollowed := true, recurses := true, apart := false }
def FnExactTreeBytesSaid : Prop := fnExactTreeBytesRow.holds Try.pinned (OpenSpec.ofChange fnExactTreeBytesSpec)

/-- ITS FALSE NEIGHBOUR: 'it returns false'. Refute it at one input. -/
def fnExactTreeBytesWrong : ChangeSpec := { name := "fnExactTreeBytes", fn := fun _ => fun
  | [d] => { results := [.lit (.bool false)], args := [d] }
  | _ => none }
def FnExactTreeBytesWrongFalsely : Prop := fnExactTreeBytesRow.holds Try.pinned (OpenSpec.ofChange fnExactTreeBytesWrong)

/- THE SECOND FORM. 'bulk': how many values and letters a reading holds, each counted each time it is reached (what is shared counts as often as it is met; a slice's spare places count too). A statement '..UptoSaid' is the law's where the arguments, and the package variables that the reading takes, are together of bulk at most 1048576: NARROWER than '..Said'. Prove '..Said' where nothing that the law and all that it calls make is longer than what came in: it says more and counts as full. Else prove '..UptoSaid'. A law counts once. -/
mutual
def uptoBulk {H : Type} : DataW H → Nat
  | .lit (.string bytes) => bytes.length + 1
  | .lit _ => 1
  | .nil => 1
  | .ptr d => uptoBulk d + 1
  | .slice elems spare => uptoBulkAll elems + uptoBulkAll spare + 1
  | .agg parts => uptoBulkAll parts + 1
  | .iface _ d => uptoBulk d + 1
  | .map entries => uptoBulkEntries entries + 1
  | .held _ => 1
def uptoBulkAll {H : Type} : List (DataW H) → Nat
  | [] => 0
  | d :: r => uptoBulk d + uptoBulkAll r
def uptoBulkEntries {H : Type} : List (Lit × DataW H) → Nat
  | [] => 0
  | x :: r => uptoBulkEntry x + uptoBulkEntries r
def uptoBulkEntry {H : Type} : Lit × DataW H → Nat
  | (.string bytes, d) => bytes.length + uptoBulk d + 1
  | (_, d) => uptoBulk d + 1
 end
def uptoSmall : (H : Type) → List (DataW H) → Bool := fun _ ds => decide (uptoBulkAll ds ≤ 1048576)
def OpenSpec.upto (s : _root_.Go.ChangeSpec) : _root_.Go.OpenSpec := { _root_.Go.OpenSpec.ofChange s with cond := some uptoSmall }

/-- 'laws.FnExactPathRight', WHERE WHAT IT READS IS OF BULK AT MOST 1048576: true; the input reads as it did. -/
def fnExactPathRightUptoRow : OpenClaim := { program := "ytjgkekgieodhnaa", sum := "6242d9ec083acd5d82ae4ef7b9d808f5795b7a8699aae7a6fc3b7c2ab467d8e0", func := "loop.example/g00626/laws.FnExactPathRight", spec := "fnExactPathRight", apart := false, narrowed := true }
def FnExactPathRightUptoSaid : Prop := fnExactPathRightUptoRow.holds Try.pinned (OpenSpec.upto fnExactPathRightSpec)

/-- 'laws.FnExactTreeRight', WHERE WHAT IT READS IS OF BULK AT MOST 1048576: true; the input reads as it did. -/
def fnExactTreeRightUptoRow : OpenClaim := { program := "ytjgkekgieodhnaa", sum := "6242d9ec083acd5d82ae4ef7b9d808f5795b7a8699aae7a6fc3b7c2ab467d8e0", func := "loop.example/g00626/laws.FnExactTreeRight", spec := "fnExactTreeRight", unfollowed := true, recurses := true, apart := false, narrowed := true }
def FnExactTreeRightUptoSaid : Prop := fnExactTreeRightUptoRow.holds Try.pinned (OpenSpec.upto fnExactTreeRightSpec)

/-- 'laws.FnExactFileOf', WHERE WHAT IT READS IS OF BULK AT MOST 1048576: true; the input reads as it did. -/
def fnExactFileOfUptoRow : OpenClaim := { program := "ytjgkekgieodhnaa", sum := "6242d9ec083acd5d82ae4ef7b9d808f5795b7a8699aae7a6fc3b7c2ab467d8e0", func := "loop.example/g00626/laws.FnExactFileOf", spec := "fnExactFileOf", unfollowed := true, recurses := true, apart := false, narrowed := true }
def FnExactFileOfUptoSaid : Prop := fnExactFileOfUptoRow.holds Try.pinned (OpenSpec.upto fnExactFileOfSpec)

/-- 'laws.FnExactTreePut', WHERE WHAT IT READS IS OF BULK AT MOST 1048576: true; the input reads as it did. -/
def fnExactTreePutUptoRow : OpenClaim := { program := "ytjgkekgieodhnaa", sum := "6242d9ec083acd5d82ae4ef7b9d808f5795b7a8699aae7a6fc3b7c2ab467d8e0", func := "loop.example/g00626/laws.FnExactTreePut", spec := "fnExactTreePut", inPlace := ["internal/bytealg.abigen_runtime_cmpstring", "slices.overlaps[loop.example/g00626/impl.File]"], unfollowed := true, recurses := true, apart := false, narrowed := true }
def FnExactTreePutUptoSaid : Prop := fnExactTreePutUptoRow.holds Try.pinned (OpenSpec.upto fnExactTreePutSpec)

/-- 'laws.FnExactTreeBytes', WHERE WHAT IT READS IS OF BULK AT MOST 1048576: true; the input reads as it did. -/
def fnExactTreeBytesUptoRow : OpenClaim := { program := "ytjgkekgieodhnaa", sum := "6242d9ec083acd5d82ae4ef7b9d808f5795b7a8699aae7a6fc3b7c2ab467d8e0", func := "loop.example/g00626/laws.FnExactTreeBytes", spec := "fnExactTreeBytes", unfollowed := true, recurses := true, apart := false, narrowed := true }
def FnExactTreeBytesUptoSaid : Prop := fnExactTreeBytesUptoRow.holds Try.pinned (OpenSpec.upto fnExactTreeBytesSpec)

end Rows
end Go.Proofs.Ytjgkekgieodhnaa
