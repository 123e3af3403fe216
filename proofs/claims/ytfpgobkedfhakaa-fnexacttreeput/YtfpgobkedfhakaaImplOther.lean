/- What the program's otherFiles answers. -/
import Derived.Test.YtfpgobkedfhakaaSpecPut4
import Derived.Test.YtfpgobkedfhakaaCopyFile
import Derived.Test.YtfpgobkedfhakaaImplTree2
namespace Go.Proofs.Ytfpgobkedfhakaa.Tre
open Go.RowKit Go.Proofs.Ytfpgobkedfhakaa.Mem Go.Proofs.Ytfpgobkedfhakaa.Gf Go.Proofs.Ytfpgobkedfhakaa.Harn Go.Proofs.Ytfpgobkedfhakaa.Mark

theorem other_one (l : List Fl) (p : ByteArray) (k : Nat) (h : k < l.length) : otherL (l.take (k + 1)) p = otherL (l.take k) p ++ (if sameT l[k].p p then [] else [l[k]]) := by
  unfold otherL
  rw [List.take_succ_eq_append_getElem h, List.filter_append]
  cases hs : sameT l[k].p p <;> simp [hs]
theorem other_le (l : List Fl) (p : ByteArray) : (otherL l p).length ≤ l.length := List.length_filter_le _ _
set_option maxRecDepth 100000 in
set_option maxHeartbeats 2000000 in
theorem otherFiles_any (v : Value) (l : List Fl) (p : ByteArray) (w : World) (h : Files w v l) (hn : l.length ≤ 1000) (hs : ∀ y ∈ l, y.p.size ≤ 1000 ∧ y.d.size ≤ 1000) :
    Calls Try.prog 50 #[v, .string p] w fun e w' => ∃ u, e = .returned u ∧ OwnF w' w.heap.size u (otherL l p) ∧ Below w.heap.size w w' := by
  obtain ⟨a, cap, rfl, hc⟩ := h
  have HC : Hid (RC w a l) := hc
  have HSS := hidT hs
  clear hc hs
  go_enter Try.func50, Try.ntmps50
  go_wp2
  go_loopw [5, 10] (fun u i wr => ∃ k : Nat, k ≤ l.length ∧ i = .int .i64 k ∧ OwnF wr w.heap.size u (otherL (l.take k) p) ∧ Below w.heap.size w wr) (fun _ i _ => l.length - (intOf i).toNat)
  case atStart => exact ⟨0, by omega, rfl, ownF_nil _ _, Below.refl _ _⟩
  case round =>
    obtain ⟨k, hk, rfl, hown, hbel⟩ := hrel
    by_cases hlt : k < l.length
    · obtain ⟨b, o, rfl, d1, d2, d3⟩ := HC.out k hlt
      have c1 : wr.cell? ⟨b, o + k * 3, none⟩ = _ := (hbel.cell (World.block_lt_of_cell? w _ d1)).trans d1
      have c2 : wr.cell? ⟨b, o + k * 3 + 1, none⟩ = _ := (hbel.cell (World.block_lt_of_cell? w _ d2)).trans d2
      have c3 : wr.cell? ⟨b, o + k * 3 + 2, none⟩ = _ := (hbel.cell (World.block_lt_of_cell? w _ d3)).trans d3
      have p1 : (k : Int) < (l.length : Int) := by omega
      have HNX := hidT (other_one l p k hlt)
      have hsz := HSS.out _ (List.getElem_mem hlt)
      have KC : Hid (∀ W, Calls Try.prog 88 #[.agg #[.string l[k].p, .int .i64 l[k].m, .string l[k].d]] W fun e w' => e = .returned (.agg #[.string l[k].p, .int .i64 l[k].m, .string l[k].d]) ∧ Below W.heap.size W w') := fun W => copyFile_any l[k] W hsz.1 hsz.2
      have HLEN : Hid ((otherL (l.take k) p).length ≤ 1000) := by
        have := other_le (l.take k) p
        have h2 : (l.take k).length ≤ l.length := by simp; omega
        show _ ≤ _; omega
      have hz : (l[k].p.toList == p.toList) = sameT l[k].p p := by unfold sameT; rw [Lib.toList_data, Lib.toList_data]
      have hz2 : (l[k].p.toList != p.toList) = !sameT l[k].p p := by rw [← hz]; rfl
      generalize sameT l[k].p p = z at *
      generalize otherL (l.take k) p = lo at *
      have HEL : Hid (l[k] = ⟨l[k].p, l[k].m, l[k].d⟩) := rfl
      generalize hlk : l[k] = fk at *
      obtain ⟨x, y, t⟩ := fk
      dsimp only at *
      have HBA := hidT (balloc hbel (.cells #[.string x, .int .i64 y, .string t] 36))
      have HOA : Hid (OwnF (wr.alloc (.cells #[.string x, .int .i64 y, .string t] 36)) w.heap.size u5 lo) := hown.below ((Below.refl _ _).alloc (Nat.le_refl _) _) (Nat.le_refl _)
      clear d1 d2 d3 hbel hown hlk HEL hsz
      cases z
      · go_wp2_with (first
          | (at_builtin; refine wp_fileN (by rfl) _ _ (by rfl) w.heap.size y1.heap.size _ _ lo ⟨x, y, t⟩ (by rfl) (by rfl) (by rfl) (HO1.out.below ((Below.refl y1.heap.size y1).alloc (Nat.le_refl _) _) (Nat.le_refl _)) (by have := HB1.out.size; simp; omega) (Sha.row_new y1 [.string x, .int .i64 y, .string t] 36) (by have := HLEN.out; omega) ?_; intro g2 c2 y2 ho2 hg2; have HB2 := hidT (Below.grown (balloc HB1.out _) hg2 (by have := HB1.out.size; simp; omega) (fun j hj => (HO1.out.lt j hj).1)); have HO2 := hidT ho2; clear ho2 hg2 HO1 HB1)
          | (go_at_call 88; refine (KC.out _).mono ?_; rintro e y1 ⟨rfl, hb1⟩; have HB1 := hidT (bstep HBA.out hb1); have HO1 := hidT (HOA.out.below hb1 (Nat.le_refl _)); clear hb1 HBA HOA))
        go_roundw
        case rel => exact ⟨k + 1, by omega, by go_num, by rw [HNX.out]; exact HO2.out, HB2.out⟩
        case measure => simp [intOf]; omega
      · go_wp2
        go_roundw
        case rel => exact ⟨k + 1, by omega, by go_num, by rw [HNX.out]; simpa using HOA.out, HBA.out⟩
        case measure => simp [intOf]; omega
    · obtain rfl : k = l.length := by omega
      rw [List.take_length] at hown
      have HO := hidT hown
      have HB := hidT hbel
      clear hown hbel
      go_wp2
      go_ret
      exact ⟨_, rfl, HO.out, HB.out⟩
end Go.Proofs.Ytfpgobkedfhakaa.Tre
