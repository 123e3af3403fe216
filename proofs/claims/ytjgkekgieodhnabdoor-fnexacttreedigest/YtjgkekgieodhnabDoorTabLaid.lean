/- The program's table of the rounds' numbers, out of what the program's text lays; and that it reads behind a call as before. -/
import Derived.Test.YtjgkekgieodhnabDoorImplBlock
import Derived.Test.YtjgkekgieodhnabDoorRows
import Derived.ProofKit
import Derived.LaidMore
import Derived.OpenShut
import Derived.ChangeVars
import Derived.WideKeyArgs
import Derived.Stop.Joined
import Derived.Below
namespace Go.Proofs.YtjgkekgieodhnabDoor.Sha
open Go.ChangeShapes Go.WideShapes Go.ChangeAt Go.WideMaps Go.WideElems Go.RowKit

abbrev tabName : String := "loop.example/g00626/impl.turnWords"
theorem gTab : Tryd.prog.globalNamed tabName = some 0 := by kernel_rfl
theorem tTab : (Tryd.prog.globals[0]?).map (·.type) = some 76 := by kernel_rfl
theorem cellsU : Tryd.prog.cellsOf 59 = 1 := by kernel_rfl
theorem underU : Tryd.prog.underlying 59 = some (.int .u32) := by kernel_rfl
theorem laidOut : laidOutB Tryd.prog = true := by kernel_rfl
theorem readTab : Tryd.prog.readableRec 76 = true := by kernel_rfl
theorem rowTab : 76 < Tryd.prog.types.size := of_decide_eq_true (by kernel_rfl)
theorem datum : (Rows.laid_loop_example_g00626_impl_turnWords : DataW Unit) = .agg (keys.map fun n : Nat => DataW.lit (.int .u32 (n : Int))) := rfl

/-- What the condition gives the walks: the table's cells. -/
theorem keys_of_laid {W : World} (h : laidMetH Tryd.prog [(tabName, Rows.laid_loop_example_g00626_impl_turnWords)] W) : KeysLaid W := by
  rw [MakeChecks.laidMetH_plain _ _ _ (by kernel_rfl)] at h
  obtain ⟨ps, ⟨g0, t0, cs0, f0, p0, q0, hg0, ht0, hv0, hd0, _, _⟩, _, _⟩ := h
  obtain rfl := Option.some.inj (gTab.symm.trans hg0)
  obtain rfl := Option.some.inj (tTab.symm.trans ht0)
  obtain ⟨xs, m1, rfl, hx1, hlen, hn, hel⟩ := DataW.trod_array underW hd0
  intro j hj
  rw [World.var?_cell hg0 hv0 j]
  have hj2 := hel j hj
  rw [cellsU, Nat.mul_one, List.getElem?_eq_getElem (by omega)] at hj2
  obtain ⟨k, e1, e2, _⟩ := DataW.trod_int underU hj2
  have hk : k = (keys.getD j 0 : Nat) := by
    rw [datum] at hx1
    simp only [Prod.mk.injEq, DataW.agg.injEq] at hx1
    have h2 : (keys.map fun n : Nat => (DataW.lit (.int .u32 (n : Int)) : DataW Unit))[j]? = (xs.map (·.1))[j]? := by rw [hx1.1]
    rw [List.getElem?_map, List.getElem?_map, List.getElem?_eq_getElem (show j < xs.length by omega), List.getElem?_eq_getElem (show j < keys.length from hj), e2] at h2
    simp at h2
    rw [← h2]
    simp [List.getD, List.getElem?_eq_getElem (show j < keys.length from hj)]
  subst hk
  have h3 : cs0.toList[j]? = some (.int .u32 (keys.getD j 0 : Nat)) := by
    have h4 : ((cs0.toList.drop j).take 1)[0]? = some (.int .u32 (keys.getD j 0 : Nat)) := by rw [e1]; rfl
    rw [List.getElem?_take, if_pos (by omega), List.getElem?_drop] at h4
    simpa using h4
  simpa using h3

/-- The table reads behind a call that turns nothing old as it did. -/
theorem tab_stays {H : Type} {enc : TypeId × Value → H} {W W' : World} {gs : List (DataW H)} {ps : List MemPlace} (h : DataW.TrodVars enc Tryd.prog W (fun _ => true) [tabName] gs ps) (hb : Below W.heap.size W W') (sp : Nat → Bool) (hs : ∀ p ∈ ps, sp p.block = true) :
    DataW.TrodVars enc Tryd.prog W' sp [tabName] gs ps := by
  have hlt := DataW.TrodVars.lt h
  obtain ⟨g, t, cs, fuel, d, p, rfl, h1, h2, h3, h4, rfl⟩ := trodVars_one h
  have hv : W'.var? Tryd.prog tabName = some cs := by
    unfold World.var? at h3 ⊢
    rw [h1] at h3 ⊢
    simp only [Option.bind_some] at h3 ⊢
    have hg : g < W.heap.size := by
      rcases Nat.lt_or_ge g W.heap.size with h' | h'
      · exact h'
      · simp [Array.getElem?_eq_none h'] at h3
    rw [hb.block g hg]
    exact h3
  obtain rfl := Option.some.inj (gTab.symm.trans h1)
  obtain rfl := Option.some.inj (tTab.symm.trans h2)
  refine trodVars_mk1 (fuel := fuel) h1 h2 hv ?_
  exact DataW.trod_stays (kids_book laidOut readTab) (book_sized readTab) (fun h => by cases h) ⟨rowTab, book_self _⟩ h4 (fun q hq => hb.same (hlt q (List.mem_append_right _ hq))) (fun q hq => hs q (List.mem_append_right _ hq))

/-- The door's own heap meets the condition. -/
theorem door_met (os : Os) (args : Array Value) : laidMetH Tryd.prog [(tabName, Rows.laid_loop_example_g00626_impl_turnWords)] ((World.doorLaid Tryd.prog 400 os).forCall (fun _ _ => 0) ⟨#[], args, []⟩).memory :=
  laidMetH_of_parts3 (fuel := 8) (laidMet_of_run' 8 (by kernel_rfl) (by kernel_rfl)) (by kernel_rfl) (by kernel_rfl)
end Go.Proofs.YtjgkekgieodhnabDoor.Sha
