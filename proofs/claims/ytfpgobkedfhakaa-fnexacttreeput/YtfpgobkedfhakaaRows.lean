/-
  No cell of these rows narrows 'for every input' (looked for: loops, veiled, ifaces, maps, wideKeys, modest, calm, conditions, laid).
  DERIVED. THE GIVEN ROWS OF THIS SEAT. 6 by the template 'for every input the law returns true; each argument reads behind the call as it read before'; 0 by the template 'total and deterministic' (their statements: YtfpgobkedfhakaaTotals.lean).
  GIVEN WITH THE SEED: the statements are not yours to turn. If you find one false, say at which input.
  Laid BY PROGRAM, IN A SANDBOX (cutbox-rows.mjs): the forced cells as the released guide's own fill.sh prints them over the translation 25397d24c35a607d… (all of the seat's roots in one cut). By AI agents, Wed Nov 11 2026. No macro, syntax, notation, axiom, sorry.
-/
import Derived.Test.YtfpgobkedfhakaaChecked
import GoSem.Claim
import GoSem.ClaimJoined
import GoSem.ClaimMapViews
import Derived.JoinedTies
import Derived.KernelRfl
namespace Go.Proofs.Ytfpgobkedfhakaa
/- THE CELL 'sum', in the pinned program and in every row, IS THE sha256 OF THE DUMP (.gsa) THAT YtfpgobkedfhakaaProg.lean LOADS. Nothing in Lean hashes anything: it is a label: what it is worth is what the hold of that sum in a sandbox is worth. -/
noncomputable def Try.pinned : Pinned := { name := "ytfpgobkedfhakaa", sum := "25397d24c35a607d35fce5dd50b98cd236ee36b14943c1e823dcd91d75503c78", checked := Try.checked }
namespace Rows
def none {H : Type} : Left H := { results := [], args := [] }

/-- 'laws.FnExactTreePut': WHATEVER THE INPUT: true; the input reads as it did. -/
def fnExactTreePutSpec : ChangeSpec := { name := "fnExactTreePut", fn := fun _ => fun
  | [d1, d2] => { results := [.lit (.bool true)], args := [d1, d2] }
  | _ => none }
def fnExactTreePutRow : OpenClaim := { program := "ytfpgobkedfhakaa", sum := "25397d24c35a607d35fce5dd50b98cd236ee36b14943c1e823dcd91d75503c78", func := "loop.example/g00626/laws.FnExactTreePut", spec := "fnExactTreePut", inPlace := ["internal/bytealg.abigen_runtime_cmpstring", "slices.overlaps[loop.example/g00626/impl.File]"], unfollowed := true, recurses := true, apart := false }
def FnExactTreePutSaid : Prop := fnExactTreePutRow.holds Try.pinned (OpenSpec.ofChange fnExactTreePutSpec)

/-- ITS FALSE NEIGHBOUR: 'it returns false'. Refute it at one input. -/
def fnExactTreePutWrong : ChangeSpec := { name := "fnExactTreePut", fn := fun _ => fun
  | [d1, d2] => { results := [.lit (.bool false)], args := [d1, d2] }
  | _ => none }
def FnExactTreePutWrongFalsely : Prop := fnExactTreePutRow.holds Try.pinned (OpenSpec.ofChange fnExactTreePutWrong)

/-- 'laws.FnExactOpsRight': WHATEVER THE INPUT: true; the input reads as it did. -/
def fnExactOpsRightSpec : ChangeSpec := { name := "fnExactOpsRight", fn := fun _ => fun
  | [d] => { results := [.lit (.bool true)], args := [d] }
  | _ => none }
def fnExactOpsRightRow : OpenClaim := { program := "ytfpgobkedfhakaa", sum := "25397d24c35a607d35fce5dd50b98cd236ee36b14943c1e823dcd91d75503c78", func := "loop.example/g00626/laws.FnExactOpsRight", spec := "fnExactOpsRight", unfollowed := true, recurses := true, apart := false }
def FnExactOpsRightSaid : Prop := fnExactOpsRightRow.holds Try.pinned (OpenSpec.ofChange fnExactOpsRightSpec)

/-- ITS FALSE NEIGHBOUR: 'it returns false'. Refute it at one input. -/
def fnExactOpsRightWrong : ChangeSpec := { name := "fnExactOpsRight", fn := fun _ => fun
  | [d] => { results := [.lit (.bool false)], args := [d] }
  | _ => none }
def FnExactOpsRightWrongFalsely : Prop := fnExactOpsRightRow.holds Try.pinned (OpenSpec.ofChange fnExactOpsRightWrong)

/-- 'laws.FnExactStepsOf': WHATEVER THE INPUT: true; the input reads as it did. -/
def fnExactStepsOfSpec : ChangeSpec := { name := "fnExactStepsOf", fn := fun _ => fun
  | [d1, d2] => { results := [.lit (.bool true)], args := [d1, d2] }
  | _ => none }
def fnExactStepsOfRow : OpenClaim := { program := "ytfpgobkedfhakaa", sum := "25397d24c35a607d35fce5dd50b98cd236ee36b14943c1e823dcd91d75503c78", func := "loop.example/g00626/laws.FnExactStepsOf", spec := "fnExactStepsOf", apart := false }
def FnExactStepsOfSaid : Prop := fnExactStepsOfRow.holds Try.pinned (OpenSpec.ofChange fnExactStepsOfSpec)

/-- ITS FALSE NEIGHBOUR: 'it returns false'. Refute it at one input. -/
def fnExactStepsOfWrong : ChangeSpec := { name := "fnExactStepsOf", fn := fun _ => fun
  | [d1, d2] => { results := [.lit (.bool false)], args := [d1, d2] }
  | _ => none }
def FnExactStepsOfWrongFalsely : Prop := fnExactStepsOfRow.holds Try.pinned (OpenSpec.ofChange fnExactStepsOfWrong)

/-- 'laws.FnExactStepsDo': WHATEVER THE INPUT: true; the input reads as it did. -/
def fnExactStepsDoSpec : ChangeSpec := { name := "fnExactStepsDo", fn := fun _ => fun
  | [d1, d2] => { results := [.lit (.bool true)], args := [d1, d2] }
  | _ => none }
def fnExactStepsDoRow : OpenClaim := { program := "ytfpgobkedfhakaa", sum := "25397d24c35a607d35fce5dd50b98cd236ee36b14943c1e823dcd91d75503c78", func := "loop.example/g00626/laws.FnExactStepsDo", spec := "fnExactStepsDo", apart := false }
def FnExactStepsDoSaid : Prop := fnExactStepsDoRow.holds Try.pinned (OpenSpec.ofChange fnExactStepsDoSpec)

/-- ITS FALSE NEIGHBOUR: 'it returns false'. Refute it at one input. -/
def fnExactStepsDoWrong : ChangeSpec := { name := "fnExactStepsDo", fn := fun _ => fun
  | [d1, d2] => { results := [.lit (.bool false)], args := [d1, d2] }
  | _ => none }
def FnExactStepsDoWrongFalsely : Prop := fnExactStepsDoRow.holds Try.pinned (OpenSpec.ofChange fnExactStepsDoWrong)

/-- 'laws.FnExactDeltaOf': WHATEVER THE INPUT: true; the input reads as it did. -/
def fnExactDeltaOfSpec : ChangeSpec := { name := "fnExactDeltaOf", fn := fun _ => fun
  | [d1, d2] => { results := [.lit (.bool true)], args := [d1, d2] }
  | _ => none }
def fnExactDeltaOfRow : OpenClaim := { program := "ytfpgobkedfhakaa", sum := "25397d24c35a607d35fce5dd50b98cd236ee36b14943c1e823dcd91d75503c78", func := "loop.example/g00626/laws.FnExactDeltaOf", spec := "fnExactDeltaOf", unfollowed := true, recurses := true, apart := false }
def FnExactDeltaOfSaid : Prop := fnExactDeltaOfRow.holds Try.pinned (OpenSpec.ofChange fnExactDeltaOfSpec)

/-- ITS FALSE NEIGHBOUR: 'it returns false'. Refute it at one input. -/
def fnExactDeltaOfWrong : ChangeSpec := { name := "fnExactDeltaOf", fn := fun _ => fun
  | [d1, d2] => { results := [.lit (.bool false)], args := [d1, d2] }
  | _ => none }
def FnExactDeltaOfWrongFalsely : Prop := fnExactDeltaOfRow.holds Try.pinned (OpenSpec.ofChange fnExactDeltaOfWrong)

/-- 'laws.FnExactDeltaDo': WHATEVER THE INPUT: true; the input reads as it did. -/
def fnExactDeltaDoSpec : ChangeSpec := { name := "fnExactDeltaDo", fn := fun _ => fun
  | [d1, d2] => { results := [.lit (.bool true)], args := [d1, d2] }
  | _ => none }
def fnExactDeltaDoRow : OpenClaim := { program := "ytfpgobkedfhakaa", sum := "25397d24c35a607d35fce5dd50b98cd236ee36b14943c1e823dcd91d75503c78", func := "loop.example/g00626/laws.FnExactDeltaDo", spec := "fnExactDeltaDo", inPlace := ["internal/bytealg.abigen_runtime_cmpstring", "slices.overlaps[loop.example/g00626/impl.File]"], unfollowed := true, recurses := true, apart := false }
def FnExactDeltaDoSaid : Prop := fnExactDeltaDoRow.holds Try.pinned (OpenSpec.ofChange fnExactDeltaDoSpec)

/-- ITS FALSE NEIGHBOUR: 'it returns false'. Refute it at one input. -/
def fnExactDeltaDoWrong : ChangeSpec := { name := "fnExactDeltaDo", fn := fun _ => fun
  | [d1, d2] => { results := [.lit (.bool false)], args := [d1, d2] }
  | _ => none }
def FnExactDeltaDoWrongFalsely : Prop := fnExactDeltaDoRow.holds Try.pinned (OpenSpec.ofChange fnExactDeltaDoWrong)

/- THE SECOND FORM. 'bulk': how many values and letters a reading holds, each counted each time it is reached (what is shared counts as often as it is met; a slice's spare places count too). A statement '..UptoSaid' is the law's where the arguments, and the package variables that the reading takes, are together of bulk at most 1048576: NARROWER than '..Said'. Prove '..Said' where nothing that the law and all that it calls make is longer than what came in: it says more and counts as full. Else prove '..UptoSaid'. A law counts once. -/
mutual
def uptoBulk {H : Type} : DataW H → Nat
  | .lit (.string bytes) => bytes.length + 1
  | .lit _ => 1
  | .nil => 1
  | .ptr d => uptoBulk d + 1
  | .slice elems spare => uptoBulkAll elems + uptoBulkAll spare + 1
  | .agg parts => uptoBulkAll parts + 1
  | .iface _ d => uptoBulk d + 1
  | .map entries => uptoBulkEntries entries + 1
  | .held _ => 1
def uptoBulkAll {H : Type} : List (DataW H) → Nat
  | [] => 0
  | d :: r => uptoBulk d + uptoBulkAll r
def uptoBulkEntries {H : Type} : List (Lit × DataW H) → Nat
  | [] => 0
  | x :: r => uptoBulkEntry x + uptoBulkEntries r
def uptoBulkEntry {H : Type} : Lit × DataW H → Nat
  | (.string bytes, d) => bytes.length + uptoBulk d + 1
  | (_, d) => uptoBulk d + 1
 end
def uptoSmall : (H : Type) → List (DataW H) → Bool := fun _ ds => decide (uptoBulkAll ds ≤ 1048576)
def OpenSpec.upto (s : _root_.Go.ChangeSpec) : _root_.Go.OpenSpec := { _root_.Go.OpenSpec.ofChange s with cond := some uptoSmall }

/-- 'laws.FnExactTreePut', WHERE WHAT IT READS IS OF BULK AT MOST 1048576: true; the input reads as it did. -/
def fnExactTreePutUptoRow : OpenClaim := { program := "ytfpgobkedfhakaa", sum := "25397d24c35a607d35fce5dd50b98cd236ee36b14943c1e823dcd91d75503c78", func := "loop.example/g00626/laws.FnExactTreePut", spec := "fnExactTreePut", inPlace := ["internal/bytealg.abigen_runtime_cmpstring", "slices.overlaps[loop.example/g00626/impl.File]"], unfollowed := true, recurses := true, apart := false, narrowed := true }
def FnExactTreePutUptoSaid : Prop := fnExactTreePutUptoRow.holds Try.pinned (OpenSpec.upto fnExactTreePutSpec)

/-- 'laws.FnExactOpsRight', WHERE WHAT IT READS IS OF BULK AT MOST 1048576: true; the input reads as it did. -/
def fnExactOpsRightUptoRow : OpenClaim := { program := "ytfpgobkedfhakaa", sum := "25397d24c35a607d35fce5dd50b98cd236ee36b14943c1e823dcd91d75503c78", func := "loop.example/g00626/laws.FnExactOpsRight", spec := "fnExactOpsRight", unfollowed := true, recurses := true, apart := false, narrowed := true }
def FnExactOpsRightUptoSaid : Prop := fnExactOpsRightUptoRow.holds Try.pinned (OpenSpec.upto fnExactOpsRightSpec)

/-- 'laws.FnExactStepsOf', WHERE WHAT IT READS IS OF BULK AT MOST 1048576: true; the input reads as it did. -/
def fnExactStepsOfUptoRow : OpenClaim := { program := "ytfpgobkedfhakaa", sum := "25397d24c35a607d35fce5dd50b98cd236ee36b14943c1e823dcd91d75503c78", func := "loop.example/g00626/laws.FnExactStepsOf", spec := "fnExactStepsOf", apart := false, narrowed := true }
def FnExactStepsOfUptoSaid : Prop := fnExactStepsOfUptoRow.holds Try.pinned (OpenSpec.upto fnExactStepsOfSpec)

/-- 'laws.FnExactStepsDo', WHERE WHAT IT READS IS OF BULK AT MOST 1048576: true; the input reads as it did. -/
def fnExactStepsDoUptoRow : OpenClaim := { program := "ytfpgobkedfhakaa", sum := "25397d24c35a607d35fce5dd50b98cd236ee36b14943c1e823dcd91d75503c78", func := "loop.example/g00626/laws.FnExactStepsDo", spec := "fnExactStepsDo", apart := false, narrowed := true }
def FnExactStepsDoUptoSaid : Prop := fnExactStepsDoUptoRow.holds Try.pinned (OpenSpec.upto fnExactStepsDoSpec)

/-- 'laws.FnExactDeltaOf', WHERE WHAT IT READS IS OF BULK AT MOST 1048576: true; the input reads as it did. -/
def fnExactDeltaOfUptoRow : OpenClaim := { program := "ytfpgobkedfhakaa", sum := "25397d24c35a607d35fce5dd50b98cd236ee36b14943c1e823dcd91d75503c78", func := "loop.example/g00626/laws.FnExactDeltaOf", spec := "fnExactDeltaOf", unfollowed := true, recurses := true, apart := false, narrowed := true }
def FnExactDeltaOfUptoSaid : Prop := fnExactDeltaOfUptoRow.holds Try.pinned (OpenSpec.upto fnExactDeltaOfSpec)

/-- 'laws.FnExactDeltaDo', WHERE WHAT IT READS IS OF BULK AT MOST 1048576: true; the input reads as it did. -/
def fnExactDeltaDoUptoRow : OpenClaim := { program := "ytfpgobkedfhakaa", sum := "25397d24c35a607d35fce5dd50b98cd236ee36b14943c1e823dcd91d75503c78", func := "loop.example/g00626/laws.FnExactDeltaDo", spec := "fnExactDeltaDo", inPlace := ["internal/bytealg.abigen_runtime_cmpstring", "slices.overlaps[loop.example/g00626/impl.File]"], unfollowed := true, recurses := true, apart := false, narrowed := true }
def FnExactDeltaDoUptoSaid : Prop := fnExactDeltaDoUptoRow.holds Try.pinned (OpenSpec.upto fnExactDeltaDoSpec)

end Rows
end Go.Proofs.Ytfpgobkedfhakaa
