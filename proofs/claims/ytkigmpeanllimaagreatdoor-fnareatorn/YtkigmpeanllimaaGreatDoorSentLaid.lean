/- The package's errors on an area and the type that errors.As asks for, out of what the program's text lays; and that they read behind a call as before. -/
import Derived.Test.YtkigmpeanllimaaGreatDoorTextsC
import Derived.Test.YtkigmpeanllimaaGreatDoorRows
import Derived.ProofKit
import Derived.LaidMore
import Derived.OpenShut
import Derived.ChangeVars
import Derived.Stop.LaidErr
import Derived.Stop.Joined
import Derived.LaidHandle
import Derived.Below
namespace Go.Proofs.YtkigmpeanllimaaGreatDoor.Sent
open Go.ChangeShapes Go.WideShapes Go.ChangeAt Go.RowKit

abbrev sn0 : String := "loop.example/g00626/impl.errWrongDisk"
abbrev sn1 : String := "loop.example/g00626/impl.errShortHead"
abbrev sn2 : String := "loop.example/g00626/impl.errTornHead"
abbrev sn3 : String := "loop.example/g00626/impl.errNoHead"
abbrev sn4 : String := "loop.example/g00626/impl.errLacking"
abbrev sn5 : String := "loop.example/g00626/impl.errNoRoom"
abbrev sentNames : List String := [sn0, sn1, sn2, sn3, sn4, sn5]
/-- What is laid: the type handle, then the errors. -/
abbrev laidAll : List (String × DataW Unit) := [("errors.errorType", Rows.laid_errors_errorType), (sn0, Rows.laid_loop_example_g00626_impl_errWrongDisk), (sn1, Rows.laid_loop_example_g00626_impl_errShortHead), (sn2, Rows.laid_loop_example_g00626_impl_errTornHead), (sn3, Rows.laid_loop_example_g00626_impl_errNoHead), (sn4, Rows.laid_loop_example_g00626_impl_errLacking), (sn5, Rows.laid_loop_example_g00626_impl_errNoRoom)]
abbrev laidSix : List (String × DataW Unit) := [(sn0, Rows.laid_loop_example_g00626_impl_errWrongDisk), (sn1, Rows.laid_loop_example_g00626_impl_errShortHead), (sn2, Rows.laid_loop_example_g00626_impl_errTornHead), (sn3, Rows.laid_loop_example_g00626_impl_errNoHead), (sn4, Rows.laid_loop_example_g00626_impl_errLacking), (sn5, Rows.laid_loop_example_g00626_impl_errNoRoom)]
theorem sg0 : Tryz.prog.globalNamed sn0 = some 0 := by kernel_rfl
theorem sg1 : Tryz.prog.globalNamed sn1 = some 1 := by kernel_rfl
theorem sg2 : Tryz.prog.globalNamed sn2 = some 2 := by kernel_rfl
theorem sg3 : Tryz.prog.globalNamed sn3 = some 4 := by kernel_rfl
theorem sg4 : Tryz.prog.globalNamed sn4 = some 3 := by kernel_rfl
theorem sg5 : Tryz.prog.globalNamed sn5 = some 5 := by kernel_rfl
theorem tyOf : ∀ g ∈ sentL, (Tryz.prog.globals[g]?).map (·.type) = some 51 := by
  intro g hg
  simp only [sentL, List.mem_cons, List.not_mem_nil, or_false] at hg
  rcases hg with rfl | rfl | rfl | rfl | rfl | rfl <;> kernel_rfl
theorem et : Tryz.prog.globalNamed "errors.errorType" = some 6 := by kernel_rfl
theorem oneRow : ((List.range 190).filter fun t => Tryz.prog.rowNamed t [101, 114, 114, 111, 114]) = [51] := by kernel_rfl
theorem size : Tryz.prog.types.size = 190 := by kernel_rfl
theorem star : "*" ++ "errors.errorString" = "*errors.errorString" := by decide
theorem errRow (u : TypeId) (h : Tryz.prog.typeName? 3 u = some "*errors.errorString") : u = 157 :=
  typeName_ptr_named (nm := "errors.errorString") (by rw [star]; kernel_rfl) (by kernel_rfl) (by decide) u (by rw [star]; exact h)

/-- What the condition gives a walk: the handle's cell. -/
theorem handle_of_laid {W : World} (h : laidMetH Tryz.prog laidAll W) : GetNum.Laid W := by
  have h' : laidMet Tryz.prog laidSix W ∧ handlesMet Tryz.prog [("errors.errorType", Rows.laid_errors_errorType)] W := h
  obtain ⟨name, u, ty, e1, e2, e3, e4, e5⟩ := h'.2 _ (List.mem_singleton.2 rfl)
  have en : name = [101, 114, 114, 111, 114] := (Option.some.inj e1).symm
  subst en
  obtain rfl : u = 120 := Option.some.inj (Eq.trans e2.symm (by kernel_rfl))
  have hm : ty ∈ (List.range 190).filter fun t => Tryz.prog.rowNamed t [101, 114, 114, 111, 114] := List.mem_filter.2 ⟨List.mem_range.2 (by rw [← size]; exact e3), e4⟩
  rw [oneRow] at hm
  obtain rfl := List.mem_singleton.1 hm
  have hh : typeHandle Tryz.prog 51 = .pointer (some ⟨7, 51, none⟩) := by kernel_rfl
  rw [hh] at e5
  simpa [GetNum.Laid] using World.var?_cell et e5 0
set_option maxRecDepth 100000 in
set_option maxHeartbeats 2000000 in
/-- .. and where the errors lie: apart, each in a cell of its own. -/
theorem sents_of_laid {W : World} (h : laidMetH Tryz.prog laidAll W) : ∃ A, SentsLaid W A sentL := by
  have h' : laidMet Tryz.prog laidSix W ∧ handlesMet Tryz.prog [("errors.errorType", Rows.laid_errors_errorType)] W := h
  have h2 := h'.1
  clear h' h
  obtain ⟨ps, ⟨g0, t0, cs0, f0, p0, q0, hg0, ht0, hv0, hd0, ⟨g1, t1, cs1, f1, p1, q1, hg1, ht1, hv1, hd1, ⟨g2, t2, cs2, f2, p2, q2, hg2, ht2, hv2, hd2, ⟨g3, t3, cs3, f3, p3, q3, hg3, ht3, hv3, hd3, ⟨g4, t4, cs4, f4, p4, q4, hg4, ht4, hv4, hd4, ⟨g5, t5, cs5, f5, p5, q5, hg5, ht5, hv5, hd5, e6, e5⟩, e4⟩, e3⟩, e2⟩, e1⟩, e0⟩, hnd, hrows⟩ := h2
  obtain rfl := Option.some.inj (sg0.symm.trans hg0)
  obtain rfl := Option.some.inj (sg1.symm.trans hg1)
  obtain rfl := Option.some.inj (sg2.symm.trans hg2)
  obtain rfl := Option.some.inj (sg3.symm.trans hg3)
  obtain rfl := Option.some.inj (sg4.symm.trans hg4)
  obtain rfl := Option.some.inj (sg5.symm.trans hg5)
  obtain rfl := Option.some.inj ((tyOf 0 (by simp [sentL])).symm.trans ht0)
  obtain rfl := Option.some.inj ((tyOf 1 (by simp [sentL])).symm.trans ht1)
  obtain rfl := Option.some.inj ((tyOf 2 (by simp [sentL])).symm.trans ht2)
  obtain rfl := Option.some.inj ((tyOf 4 (by simp [sentL])).symm.trans ht3)
  obtain rfl := Option.some.inj ((tyOf 3 (by simp [sentL])).symm.trans ht4)
  obtain rfl := Option.some.inj ((tyOf 5 (by simp [sentL])).symm.trans ht5)
  subst e6
  subst e5
  subst e4
  subst e3
  subst e2
  subst e1
  subst e0
  obtain ⟨l0⟩ := cs0
  obtain ⟨l1⟩ := cs1
  obtain ⟨l2⟩ := cs2
  obtain ⟨l3⟩ := cs3
  obtain ⟨l4⟩ := cs4
  obtain ⟨l5⟩ := cs5
  have ok0 : ∀ u v, l0 = [.iface u v] → Value.okWide Tryz.prog W .any 0 u v := fun u v e => by
    subst e
    exact (hrows 0 0 (by simp [MemPlace.row])).2 u v (by simpa using World.var?_cell sg0 hv0 0)
  have ok1 : ∀ u v, l1 = [.iface u v] → Value.okWide Tryz.prog W .any 0 u v := fun u v e => by
    subst e
    exact (hrows 1 0 (by simp [MemPlace.row])).2 u v (by simpa using World.var?_cell sg1 hv1 0)
  have ok2 : ∀ u v, l2 = [.iface u v] → Value.okWide Tryz.prog W .any 0 u v := fun u v e => by
    subst e
    exact (hrows 2 0 (by simp [MemPlace.row])).2 u v (by simpa using World.var?_cell sg2 hv2 0)
  have ok3 : ∀ u v, l3 = [.iface u v] → Value.okWide Tryz.prog W .any 0 u v := fun u v e => by
    subst e
    exact (hrows 4 0 (by simp [MemPlace.row])).2 u v (by simpa using World.var?_cell sg3 hv3 0)
  have ok4 : ∀ u v, l4 = [.iface u v] → Value.okWide Tryz.prog W .any 0 u v := fun u v e => by
    subst e
    exact (hrows 3 0 (by simp [MemPlace.row])).2 u v (by simpa using World.var?_cell sg4 hv4 0)
  have ok5 : ∀ u v, l5 = [.iface u v] → Value.okWide Tryz.prog W .any 0 u v := fun u v e => by
    subst e
    exact (hrows 5 0 (by simp [MemPlace.row])).2 u v (by simpa using World.var?_cell sg5 hv5 0)
  obtain ⟨a0, s0, rfl, hc0, _, _, rfl⟩ := errorString_of_trod Tryz.underlying51 errRow Tryz.underlying157 Tryz.underlying178 rfl rfl Tryz.underlying9 (by kernel_rfl) (by kernel_rfl) hd0 ok0
  obtain ⟨a1, s1, rfl, hc1, _, _, rfl⟩ := errorString_of_trod Tryz.underlying51 errRow Tryz.underlying157 Tryz.underlying178 rfl rfl Tryz.underlying9 (by kernel_rfl) (by kernel_rfl) hd1 ok1
  obtain ⟨a2, s2, rfl, hc2, _, _, rfl⟩ := errorString_of_trod Tryz.underlying51 errRow Tryz.underlying157 Tryz.underlying178 rfl rfl Tryz.underlying9 (by kernel_rfl) (by kernel_rfl) hd2 ok2
  obtain ⟨a3, s3, rfl, hc3, _, _, rfl⟩ := errorString_of_trod Tryz.underlying51 errRow Tryz.underlying157 Tryz.underlying178 rfl rfl Tryz.underlying9 (by kernel_rfl) (by kernel_rfl) hd3 ok3
  obtain ⟨a4, s4, rfl, hc4, _, _, rfl⟩ := errorString_of_trod Tryz.underlying51 errRow Tryz.underlying157 Tryz.underlying178 rfl rfl Tryz.underlying9 (by kernel_rfl) (by kernel_rfl) hd4 ok4
  obtain ⟨a5, s5, rfl, hc5, _, _, rfl⟩ := errorString_of_trod Tryz.underlying51 errRow Tryz.underlying157 Tryz.underlying178 rfl rfl Tryz.underlying9 (by kernel_rfl) (by kernel_rfl) hd5 ok5
  obtain ⟨c0, y0, hb0⟩ := (hrows a0.block a0.off (by simp [MemPlace.row])).1
  obtain ⟨c1, y1, hb1⟩ := (hrows a1.block a1.off (by simp [MemPlace.row])).1
  obtain ⟨c2, y2, hb2⟩ := (hrows a2.block a2.off (by simp [MemPlace.row])).1
  obtain ⟨c3, y3, hb3⟩ := (hrows a3.block a3.off (by simp [MemPlace.row])).1
  obtain ⟨c4, y4, hb4⟩ := (hrows a4.block a4.off (by simp [MemPlace.row])).1
  obtain ⟨c5, y5, hb5⟩ := (hrows a5.block a5.off (by simp [MemPlace.row])).1
  have hne : [a0, a1, a2, a3, a4, a5].Nodup := by
    have h2 : ([a0, a1, a2, a3, a4, a5].map fun a => MemPlace.cell a.block a.off).Nodup := by
      refine List.Nodup.sublist ?_ hnd
      simp only [MemPlace.row, List.size_toArray, List.length_cons, List.length_nil, Nat.zero_add, List.range_one, List.map_cons, List.map_nil, Nat.add_zero, List.cons_append, List.nil_append, List.append_nil]
      exact .cons _ (.cons_cons _ (.cons _ (.cons_cons _ (.cons _ (.cons_cons _ (.cons _ (.cons_cons _ (.cons _ (.cons_cons _ (.cons _ (.cons_cons _ .slnil)))))))))))
    exact List.Pairwise.of_map (S := (· ≠ ·)) _ (fun a b h e => h (by rw [e])) h2
  let A : Nat → Addr := fun g => if g = 0 then a0 else if g = 1 then a1 else if g = 2 then a2 else if g = 4 then a3 else if g = 3 then a4 else a5
  have hA0 : A 0 = a0 := rfl
  have hA1 : A 1 = a1 := rfl
  have hA2 : A 2 = a2 := rfl
  have hA3 : A 4 = a3 := rfl
  have hA4 : A 3 = a4 := rfl
  have hA5 : A 5 = a5 := rfl
  have hv : ∀ g ∈ sentL, W.cell? ⟨g, 0, none⟩ = some (.iface 157 (.pointer (some (A g)))) := by
    intro g hg
    simp only [sentL, List.mem_cons, List.not_mem_nil, or_false] at hg
    rcases hg with rfl | rfl | rfl | rfl | rfl | rfl
    · rw [hA0]; simpa using World.var?_cell sg0 hv0 0
    · rw [hA1]; simpa using World.var?_cell sg1 hv1 0
    · rw [hA2]; simpa using World.var?_cell sg2 hv2 0
    · rw [hA4]; simpa using World.var?_cell sg4 hv4 0
    · rw [hA3]; simpa using World.var?_cell sg3 hv3 0
    · rw [hA5]; simpa using World.var?_cell sg5 hv5 0
  have hh : ∀ g ∈ sentL, ∃ c t, W.heap[(A g).block]? = some (.cells c t (0, 0)) := by
    intro g hg
    simp only [sentL, List.mem_cons, List.not_mem_nil, or_false] at hg
    rcases hg with rfl | rfl | rfl | rfl | rfl | rfl
    · rw [hA0]; exact ⟨_, _, hb0⟩
    · rw [hA1]; exact ⟨_, _, hb1⟩
    · rw [hA2]; exact ⟨_, _, hb2⟩
    · rw [hA4]; exact ⟨_, _, hb4⟩
    · rw [hA3]; exact ⟨_, _, hb3⟩
    · rw [hA5]; exact ⟨_, _, hb5⟩
  refine ⟨A, hv, hh, ?_⟩
  simp only [List.nodup_cons, List.mem_cons, List.not_mem_nil, or_false, not_or] at hne
  intro g hg k hk hgk
  simp only [sentL, List.mem_cons, List.not_mem_nil, or_false] at hg hk
  rcases hg with rfl | rfl | rfl | rfl | rfl | rfl <;> rcases hk with rfl | rfl | rfl | rfl | rfl | rfl <;> simp only [hA0, hA1, hA2, hA3, hA4, hA5] <;> first | exact absurd rfl hgk | (intro e; simp_all)

/-- Variables of interface types read behind a call that turns nothing old as they did. -/
theorem vars_stay {H : Type} {enc : TypeId × Value → H} {P : Program} {W W' : World} (hb : Below W.heap.size W W') (sp : Nat → Bool) : ∀ (ns : List String) (gs : List (DataW H)) (ps : List MemPlace), (∀ n ∈ ns, ∀ g t, P.globalNamed n = some g → (P.globals[g]?).map (·.type) = some t → ∃ ms, P.underlying t = some (.interface ms)) → DataW.TrodVars enc P W (fun _ => true) ns gs ps → DataW.TrodVars enc P W' sp ns gs ps
  | [], [], _, _, h => h
  | n :: ns, d :: ds, ps, hT, h => by
    obtain ⟨g, t, cs, fuel, p, q, h1, h2, h3, h4, hs, e⟩ := h
    obtain ⟨ms, hi⟩ := hT n (List.mem_cons_self ..) g t h1 h2
    obtain ⟨x, rfl, ix, rfl, rfl, _⟩ := token_of h1 hi h3 h4
    have hv : W'.var? P n = some #[x] := by
      unfold World.var? at h3 ⊢
      rw [h1] at h3 ⊢
      simp only [Option.bind_some] at h3 ⊢
      have hg : g < W.heap.size := by
        rcases Nat.lt_or_ge g W.heap.size with h' | h'
        · exact h'
        · simp [Array.getElem?_eq_none h'] at h3
      rw [hb.block g hg]
      exact h3
    exact ⟨g, t, #[x], 1, [], q, h1, h2, hv, trod_held hi ix 0, vars_stay hb sp ns ds q (fun n hn => hT n (List.mem_cons_of_mem _ hn)) hs, e⟩
theorem six_types : ∀ n ∈ sentNames, ∀ g t, Tryz.prog.globalNamed n = some g → (Tryz.prog.globals[g]?).map (·.type) = some t → ∃ ms, Tryz.prog.underlying t = some (.interface ms) := by
  intro n hn g t h1 h2
  simp only [sentNames, List.mem_cons, List.not_mem_nil, or_false] at hn
  have hg : g ∈ sentL := by
    rcases hn with rfl | rfl | rfl | rfl | rfl | rfl
    · rw [← Option.some.inj (sg0.symm.trans h1)]; simp [sentL]
    · rw [← Option.some.inj (sg1.symm.trans h1)]; simp [sentL]
    · rw [← Option.some.inj (sg2.symm.trans h1)]; simp [sentL]
    · rw [← Option.some.inj (sg3.symm.trans h1)]; simp [sentL]
    · rw [← Option.some.inj (sg4.symm.trans h1)]; simp [sentL]
    · rw [← Option.some.inj (sg5.symm.trans h1)]; simp [sentL]
  obtain rfl := Option.some.inj ((tyOf g hg).symm.trans h2)
  exact ⟨_, Tryz.underlying51⟩
theorem vals_len {H : Type} {enc : TypeId × Value → H} {P : Program} {W : World} {sp : Nat → Bool} : ∀ {ns : List String} {gs : List (DataW H)} {ps : List MemPlace}, DataW.TrodVars enc P W sp ns gs ps → gs.length = ns.length
  | [], [], _, _ => rfl
  | _ :: _, [], _, h => h.elim
  | [], _ :: _, _, h => h.elim
  | n :: ns, d :: ds, ps, h => by
    obtain ⟨_, _, _, _, _, q, _, _, _, _, hs, _⟩ := h
    simp [vals_len hs]
theorem six_of {α : Type} {l : List α} (h : l.length = 6) : ∃ a b c d e f, l = [a, b, c, d, e, f] := by
  match l, h with
  | [a, b, c, d, e, f], _ => exact ⟨a, b, c, d, e, f, rfl⟩

/-- The door's own heap meets the condition. -/
theorem door_met (os : Os) (args : Array Value) : laidMetH Tryz.prog laidAll ((World.doorLaid Tryz.prog 400 os).forCall (fun _ _ => 0) ⟨#[], args, []⟩).memory :=
  laidMetH_of_parts3 (fuel := 8) (laidMet_of_run' 8 (by kernel_rfl) (by kernel_rfl)) (by kernel_rfl) (by kernel_rfl)
end Go.Proofs.YtkigmpeanllimaaGreatDoor.Sent
