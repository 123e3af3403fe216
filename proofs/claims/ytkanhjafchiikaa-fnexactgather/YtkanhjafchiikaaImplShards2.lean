/- What the program's look at all the rising shards answers. -/
import Derived.Test.YtkanhjafchiikaaTextsF
import Derived.Test.YtkanhjafchiikaaTextsA
namespace Go.Proofs.Ytkanhjafchiikaa.Srt
open Go.RowKit Go.Proofs.Ytkanhjafchiikaa.Mem Go.Proofs.Ytkanhjafchiikaa.Harn Go.Proofs.Ytkanhjafchiikaa.Gf

set_option maxRecDepth 100000 in
set_option maxHeartbeats 2000000 in
theorem shardsRight_any (v : Value) (l : List E) (n m s : Nat) (w : World) (h : Pends w v l) (hl : l.length ≤ 2000) (hn : 0 < n) (hn2 : n ≤ 100) (hm : m ≤ 100) (hs : s ≤ 1000) :
    Calls Try.prog 39 #[v, .int .i64 (n : Nat), .int .i64 (m : Nat), .int .i64 (s : Nat)] w fun e w' => e = .returned (.bool (rightB n m s l)) ∧ Below w.heap.size w w' := by
  obtain ⟨a, cap, rfl, hc⟩ := h
  have HC : Hid (∀ j (h : j < l.length), ∃ b o, a = some ⟨b, o, none⟩ ∧ w.cell? ⟨b, o + j * 2, none⟩ = some (.int .i64 l[j].1) ∧ w.cell? ⟨b, o + j * 2 + 1, none⟩ = some (.string l[j].2)) := hc
  have HNO : Hid (∀ i, i < l.length → rightAt n m s l i = false → rightB n m s l = false) := fun i hi h => rightB_no hi h
  have HYES : Hid ((∀ i, i < l.length → rightAt n m s l i = true) → rightB n m s l = true) := fun h => rightB_yes h
  generalize rightB n m s l = z at *
  clear hc
  go_enter Try.func39, Try.ntmps39
  go_wp2
  go_loopw [13] (fun i wr => ∃ k : Nat, k ≤ l.length ∧ i = .int .i64 k ∧ (∀ i, i < k → rightAt n m s l i = true) ∧ Below w.heap.size w wr) (fun i _ => l.length - (intOf i).toNat)
  case atStart => exact ⟨0, by omega, rfl, fun i hi => by omega, Below.refl _ _⟩
  case round =>
    obtain ⟨k, hk, rfl, hok, hbel⟩ := hrel
    have HOK : Hid (∀ i, i < k → rightAt n m s l i = true) := hok
    have HBEL : Hid (Below w.heap.size w wr) := hbel
    clear hok
    by_cases hlt : k < l.length
    · obtain ⟨b, o, rfl, d1, d2⟩ := HC.out k hlt
      have c1 : wr.cell? ⟨b, o + k * 2, none⟩ = _ := (hbel.cell (World.block_lt_of_cell? w _ d1)).trans d1
      have c2 : wr.cell? ⟨b, o + k * 2 + 1, none⟩ = _ := (hbel.cell (World.block_lt_of_cell? w _ d2)).trans d2
      have p1 : (k : Int) < (l.length : Int) := by omega
      have p0 : (0 : Int) ≤ (k : Int) := by omega
      have HRA : Hid (rightAt n m s l k = (okS n m s (l[k].1, l[k].2) && (decide (k = 0) || decide (kat l k ≠ kat l (k - 1))))) := by
        show _ = _; unfold rightAt; simp [hlt]
      have HSR : Hid (∀ W, Calls Try.prog 49 #[.agg #[.int .i64 l[k].1, .string l[k].2], .int .i64 (n : Nat), .int .i64 (m : Nat), .int .i64 (s : Nat)] W fun e w' => e = .returned (.bool (okS n m s (l[k].1, l[k].2))) ∧ Below W.heap.size W w') := fun W => shardRight_any _ _ n m s W hn hn2 hm hs
      have HK : Hid (kat l k = l[k].1) := kat_at _
      have hz := hbel.size
      generalize hr : okS n m s (l[k].1, l[k].2) = r at *
      clear hr
      generalize l[k].1 = x at *
      generalize l[k].2 = t at *
      clear d1 d2 hbel
      cases r
      · have HZ : Hid (z = false) := HNO.out k hlt (by rw [HRA.out]; rfl)
        have BB := fun {w1 : World} (hb1 : Below (wr.alloc (.cells #[.int .i64 x, .string t] 36)).drew.heap.size (wr.alloc (.cells #[.int .i64 x, .string t] 36)).drew w1) => (Sha.bel_drewN (HBEL.out.alloc hz _) 1 : Below w.heap.size w (wr.alloc (.cells #[.int .i64 x, .string t] 36)).drew).trans (hb1.mono (Sha.bel_drewN (HBEL.out.alloc hz _) 1 : Below w.heap.size w (wr.alloc (.cells #[.int .i64 x, .string t] 36)).drew).size)
        go_wp2_with fail
        go_region_held3 (fun w' => w'.cell? ⟨wr.heap.size, 0, none⟩ = some (.int .i64 x) ∧ w'.cell? ⟨wr.heap.size, 1, none⟩ = some (.string t))
          (first
            | go_keep
            | (exact kQ))
          ((go_at_call 49; refine (HSR.out _).mono ?_; rintro e w1 ⟨rfl, hb1⟩; have kQ : w1.cell? ⟨wr.heap.size, 0, none⟩ = some (.int .i64 x) ∧ w1.cell? ⟨wr.heap.size, 1, none⟩ = some (.string t) := ⟨(hb1.cell (p := ⟨wr.heap.size, 0, none⟩) (by simp)).trans (by simp), (hb1.cell (p := ⟨wr.heap.size, 1, none⟩) (by simp)).trans (by simp)⟩; have HB1 : Hid (Below w.heap.size w w1) := BB hb1; simp only [CutCall.shut_cut] at *))
        unfold Hid
        refine wpAnyH_take (i := 5) (v := ?_) rfl (by kernel_rfl) (by kernel_rfl) (by kernel_rfl) (fun _ _ _ h => h) (Or.inl ⟨by rfl, ?_⟩) kQ ?_
        rotate_left
        · (intro w9 hS9; (try dsimp only at hS9); go_simp; (try with_reducible rfl))
        simp only [List.getElem_toArray, List.getElem_cons_succ, List.getElem_cons_zero, Act.put, List.setIfInBounds_toArray, List.set_cons_zero, List.set_cons_succ]
        refine wpAnyH_take (i := 6) (v := ?_) rfl (by kernel_rfl) (by kernel_rfl) (by kernel_rfl) (fun _ _ _ h => h) (Or.inl ⟨by rfl, ?_⟩) kQ ?_
        rotate_left
        · (intro w9 hS9; (try dsimp only at hS9); go_simp; (try with_reducible rfl))
        simp only [List.getElem_toArray, List.getElem_cons_succ, List.getElem_cons_zero, Act.put, List.setIfInBounds_toArray, List.set_cons_zero, List.set_cons_succ]
        refine wpAnyH_take (i := 7) (v := _) rfl (by kernel_rfl) (by kernel_rfl) (by kernel_rfl) (fun _ _ _ h => h) (Or.inr ⟨by rfl, rfl⟩) kQ ?_
        simp only [List.getElem_toArray, List.getElem_cons_succ, List.getElem_cons_zero, Act.put, List.setIfInBounds_toArray, List.set_cons_zero, List.set_cons_succ]
        refine wpAnyH_take (i := 8) (v := _) rfl (by kernel_rfl) (by kernel_rfl) (by kernel_rfl) (fun _ _ _ h => h) (Or.inr ⟨by rfl, rfl⟩) kQ ?_
        simp only [List.getElem_toArray, List.getElem_cons_succ, List.getElem_cons_zero, Act.put, List.setIfInBounds_toArray, List.set_cons_zero, List.set_cons_succ]
        refine wpAnyH_take (i := 9) (v := _) rfl (by kernel_rfl) (by kernel_rfl) (by kernel_rfl) (fun _ _ _ h => h) (Or.inr ⟨by rfl, rfl⟩) kQ ?_
        simp only [List.getElem_toArray, List.getElem_cons_succ, List.getElem_cons_zero, Act.put, List.setIfInBounds_toArray, List.set_cons_zero, List.set_cons_succ]
        refine wpAnyH_take (i := 10) (v := _) rfl (by kernel_rfl) (by kernel_rfl) (by kernel_rfl) (fun _ _ _ h => h) (Or.inr ⟨by rfl, rfl⟩) kQ ?_
        simp only [List.getElem_toArray, List.getElem_cons_succ, List.getElem_cons_zero, Act.put, List.setIfInBounds_toArray, List.set_cons_zero, List.set_cons_succ]
        refine wpAnyH_take (i := 11) (v := _) rfl (by kernel_rfl) (by kernel_rfl) (by kernel_rfl) (fun _ _ _ h => h) (Or.inr ⟨by rfl, rfl⟩) kQ ?_
        simp only [List.getElem_toArray, List.getElem_cons_succ, List.getElem_cons_zero, Act.put, List.setIfInBounds_toArray, List.set_cons_zero, List.set_cons_succ]
        refine wpAnyH_take (i := 12) (v := _) rfl (by kernel_rfl) (by kernel_rfl) (by kernel_rfl) (fun _ _ _ h => h) (Or.inr ⟨by rfl, rfl⟩) kQ ?_
        simp only [List.getElem_toArray, List.getElem_cons_succ, List.getElem_cons_zero, Act.put, List.setIfInBounds_toArray, List.set_cons_zero, List.set_cons_succ]
        refine wpAnyH_take (i := 13) (v := _) rfl (by kernel_rfl) (by kernel_rfl) (by kernel_rfl) (fun _ _ _ h => h) (Or.inr ⟨by rfl, rfl⟩) kQ ?_
        simp only [List.getElem_toArray, List.getElem_cons_succ, List.getElem_cons_zero, Act.put, List.setIfInBounds_toArray, List.set_cons_zero, List.set_cons_succ]
        refine wpAnyH_take (i := 14) (v := _) rfl (by kernel_rfl) (by kernel_rfl) (by kernel_rfl) (fun _ _ _ h => h) (Or.inr ⟨by rfl, rfl⟩) kQ ?_
        simp only [List.getElem_toArray, List.getElem_cons_succ, List.getElem_cons_zero, Act.put, List.setIfInBounds_toArray, List.set_cons_zero, List.set_cons_succ]
        refine wpAnyH_take (i := 15) (v := _) rfl (by kernel_rfl) (by kernel_rfl) (by kernel_rfl) (fun _ _ _ h => h) (Or.inr ⟨by rfl, rfl⟩) kQ ?_
        simp only [List.getElem_toArray, List.getElem_cons_succ, List.getElem_cons_zero, Act.put, List.setIfInBounds_toArray, List.set_cons_zero, List.set_cons_succ]
        refine wpAnyH_take (i := 16) (v := _) rfl (by kernel_rfl) (by kernel_rfl) (by kernel_rfl) (fun _ _ _ h => h) (Or.inr ⟨by rfl, rfl⟩) kQ ?_
        simp only [List.getElem_toArray, List.getElem_cons_succ, List.getElem_cons_zero, Act.put, List.setIfInBounds_toArray, List.set_cons_zero, List.set_cons_succ]
        refine wpAnyH_take (i := 17) (v := _) rfl (by kernel_rfl) (by kernel_rfl) (by kernel_rfl) (fun _ _ _ h => h) (Or.inr ⟨by rfl, rfl⟩) kQ ?_
        simp only [List.getElem_toArray, List.getElem_cons_succ, List.getElem_cons_zero, Act.put, List.setIfInBounds_toArray, List.set_cons_zero, List.set_cons_succ]
        refine wpAnyH_take (i := 18) (v := _) rfl (by kernel_rfl) (by kernel_rfl) (by kernel_rfl) (fun _ _ _ h => h) (Or.inr ⟨by rfl, rfl⟩) kQ ?_
        simp only [List.getElem_toArray, List.getElem_cons_succ, List.getElem_cons_zero, Act.put, List.setIfInBounds_toArray, List.set_cons_zero, List.set_cons_succ]
        refine wpAnyH_take (i := 19) (v := _) rfl (by kernel_rfl) (by kernel_rfl) (by kernel_rfl) (fun _ _ _ h => h) (Or.inr ⟨by rfl, rfl⟩) kQ ?_
        simp only [List.getElem_toArray, List.getElem_cons_succ, List.getElem_cons_zero, Act.put, List.setIfInBounds_toArray, List.set_cons_zero, List.set_cons_succ]
        refine wpAnyH_take (i := 20) (v := ?_) rfl (by kernel_rfl) (by kernel_rfl) (by kernel_rfl) (fun _ _ _ h => h) (Or.inl ⟨by rfl, ?_⟩) kQ ?_
        rotate_left
        · (intro w9 hS9; (try dsimp only at hS9); go_simp; (try with_reducible rfl))
        simp only [List.getElem_toArray, List.getElem_cons_succ, List.getElem_cons_zero, Act.put, List.setIfInBounds_toArray, List.set_cons_zero, List.set_cons_succ]
        refine wpAnyH_done (by kernel_rfl) ?_ _
        refine NoPanic.normal ?_
        go_wp2
        go_ret
        exact ⟨ret_bool HZ.out.symm, HB1.out⟩
      · by_cases hk0 : k = 0
        · subst hk0
          rw [Nat.zero_mul, Nat.add_zero] at c1 c2
          have q1 : (0 : Int) < (l.length : Int) := by omega
          have HR : Hid (rightAt n m s l 0 = true) := by show _ = _; rw [HRA.out]; rfl
          have BB := fun {w1 : World} (hb1 : Below (wr.alloc (.cells #[.int .i64 x, .string t] 36)).drew.heap.size (wr.alloc (.cells #[.int .i64 x, .string t] 36)).drew w1) => (Sha.bel_drewN (HBEL.out.alloc hz _) 1 : Below w.heap.size w (wr.alloc (.cells #[.int .i64 x, .string t] 36)).drew).trans (hb1.mono (Sha.bel_drewN (HBEL.out.alloc hz _) 1 : Below w.heap.size w (wr.alloc (.cells #[.int .i64 x, .string t] 36)).drew).size)
          go_wp2_with fail
          go_region_held3 (fun w' => w'.cell? ⟨wr.heap.size, 0, none⟩ = some (.int .i64 x) ∧ w'.cell? ⟨wr.heap.size, 1, none⟩ = some (.string t))
            (first
              | go_keep
              | (exact kQ))
            ((go_at_call 49; refine (HSR.out _).mono ?_; rintro e w1 ⟨rfl, hb1⟩; have kQ : w1.cell? ⟨wr.heap.size, 0, none⟩ = some (.int .i64 x) ∧ w1.cell? ⟨wr.heap.size, 1, none⟩ = some (.string t) := ⟨(hb1.cell (p := ⟨wr.heap.size, 0, none⟩) (by simp)).trans (by simp), (hb1.cell (p := ⟨wr.heap.size, 1, none⟩) (by simp)).trans (by simp)⟩; have HB1 : Hid (Below w.heap.size w w1) := BB hb1; simp only [CutCall.shut_cut] at *))
          unfold Hid
          refine wpAnyH_take (i := 5) (v := ?_) rfl (by kernel_rfl) (by kernel_rfl) (by kernel_rfl) (fun _ _ _ h => h) (Or.inl ⟨by rfl, ?_⟩) kQ ?_
          rotate_left
          · (intro w9 hS9; (try dsimp only at hS9); go_simp; (try with_reducible rfl))
          simp only [List.getElem_toArray, List.getElem_cons_succ, List.getElem_cons_zero, Act.put, List.setIfInBounds_toArray, List.set_cons_zero, List.set_cons_succ]
          refine wpAnyH_take (i := 6) (v := ?_) rfl (by kernel_rfl) (by kernel_rfl) (by kernel_rfl) (fun _ _ _ h => h) (Or.inl ⟨by rfl, ?_⟩) kQ ?_
          rotate_left
          · (intro w9 hS9; (try dsimp only at hS9); go_simp; (try with_reducible rfl))
          simp only [List.getElem_toArray, List.getElem_cons_succ, List.getElem_cons_zero, Act.put, List.setIfInBounds_toArray, List.set_cons_zero, List.set_cons_succ]
          refine wpAnyH_take (i := 7) (v := ?_) rfl (by kernel_rfl) (by kernel_rfl) (by kernel_rfl) (fun _ _ _ h => h) (Or.inl ⟨by rfl, ?_⟩) kQ ?_
          rotate_left
          · (intro w9 hS9; (try dsimp only at hS9); go_simp; (try with_reducible rfl))
          simp only [List.getElem_toArray, List.getElem_cons_succ, List.getElem_cons_zero, Act.put, List.setIfInBounds_toArray, List.set_cons_zero, List.set_cons_succ]
          refine wpAnyH_take (i := 8) (v := ?_) rfl (by kernel_rfl) (by kernel_rfl) (by kernel_rfl) (fun _ _ _ h => h) (Or.inl ⟨by rfl, ?_⟩) kQ ?_
          rotate_left
          · (intro w9 hS9; (try dsimp only at hS9); go_simp; (try with_reducible rfl))
          simp only [List.getElem_toArray, List.getElem_cons_succ, List.getElem_cons_zero, Act.put, List.setIfInBounds_toArray, List.set_cons_zero, List.set_cons_succ]
          refine wpAnyH_take (i := 9) (v := ?_) rfl (by kernel_rfl) (by kernel_rfl) (by kernel_rfl) (fun _ _ _ h => h) (Or.inl ⟨by rfl, ?_⟩) kQ ?_
          rotate_left
          · (intro w9 hS9; (try dsimp only at hS9); go_simp; (try with_reducible rfl))
          simp only [List.getElem_toArray, List.getElem_cons_succ, List.getElem_cons_zero, Act.put, List.setIfInBounds_toArray, List.set_cons_zero, List.set_cons_succ]
          refine wpAnyH_take (i := 10) (v := _) rfl (by kernel_rfl) (by kernel_rfl) (by kernel_rfl) (fun _ _ _ h => h) (Or.inr ⟨by rfl, rfl⟩) kQ ?_
          simp only [List.getElem_toArray, List.getElem_cons_succ, List.getElem_cons_zero, Act.put, List.setIfInBounds_toArray, List.set_cons_zero, List.set_cons_succ]
          refine wpAnyH_take (i := 11) (v := _) rfl (by kernel_rfl) (by kernel_rfl) (by kernel_rfl) (fun _ _ _ h => h) (Or.inr ⟨by rfl, rfl⟩) kQ ?_
          simp only [List.getElem_toArray, List.getElem_cons_succ, List.getElem_cons_zero, Act.put, List.setIfInBounds_toArray, List.set_cons_zero, List.set_cons_succ]
          refine wpAnyH_take (i := 12) (v := _) rfl (by kernel_rfl) (by kernel_rfl) (by kernel_rfl) (fun _ _ _ h => h) (Or.inr ⟨by rfl, rfl⟩) kQ ?_
          simp only [List.getElem_toArray, List.getElem_cons_succ, List.getElem_cons_zero, Act.put, List.setIfInBounds_toArray, List.set_cons_zero, List.set_cons_succ]
          refine wpAnyH_take (i := 13) (v := _) rfl (by kernel_rfl) (by kernel_rfl) (by kernel_rfl) (fun _ _ _ h => h) (Or.inr ⟨by rfl, rfl⟩) kQ ?_
          simp only [List.getElem_toArray, List.getElem_cons_succ, List.getElem_cons_zero, Act.put, List.setIfInBounds_toArray, List.set_cons_zero, List.set_cons_succ]
          refine wpAnyH_take (i := 14) (v := _) rfl (by kernel_rfl) (by kernel_rfl) (by kernel_rfl) (fun _ _ _ h => h) (Or.inr ⟨by rfl, rfl⟩) kQ ?_
          simp only [List.getElem_toArray, List.getElem_cons_succ, List.getElem_cons_zero, Act.put, List.setIfInBounds_toArray, List.set_cons_zero, List.set_cons_succ]
          refine wpAnyH_take (i := 15) (v := _) rfl (by kernel_rfl) (by kernel_rfl) (by kernel_rfl) (fun _ _ _ h => h) (Or.inr ⟨by rfl, rfl⟩) kQ ?_
          simp only [List.getElem_toArray, List.getElem_cons_succ, List.getElem_cons_zero, Act.put, List.setIfInBounds_toArray, List.set_cons_zero, List.set_cons_succ]
          refine wpAnyH_take (i := 16) (v := _) rfl (by kernel_rfl) (by kernel_rfl) (by kernel_rfl) (fun _ _ _ h => h) (Or.inr ⟨by rfl, rfl⟩) kQ ?_
          simp only [List.getElem_toArray, List.getElem_cons_succ, List.getElem_cons_zero, Act.put, List.setIfInBounds_toArray, List.set_cons_zero, List.set_cons_succ]
          refine wpAnyH_take (i := 17) (v := _) rfl (by kernel_rfl) (by kernel_rfl) (by kernel_rfl) (fun _ _ _ h => h) (Or.inr ⟨by rfl, rfl⟩) kQ ?_
          simp only [List.getElem_toArray, List.getElem_cons_succ, List.getElem_cons_zero, Act.put, List.setIfInBounds_toArray, List.set_cons_zero, List.set_cons_succ]
          refine wpAnyH_take (i := 18) (v := _) rfl (by kernel_rfl) (by kernel_rfl) (by kernel_rfl) (fun _ _ _ h => h) (Or.inr ⟨by rfl, rfl⟩) kQ ?_
          simp only [List.getElem_toArray, List.getElem_cons_succ, List.getElem_cons_zero, Act.put, List.setIfInBounds_toArray, List.set_cons_zero, List.set_cons_succ]
          refine wpAnyH_take (i := 19) (v := ?_) rfl (by kernel_rfl) (by kernel_rfl) (by kernel_rfl) (fun _ _ _ h => h) (Or.inl ⟨by rfl, ?_⟩) kQ ?_
          rotate_left
          · (intro w9 hS9; (try dsimp only at hS9); go_simp; (try with_reducible rfl))
          simp only [List.getElem_toArray, List.getElem_cons_succ, List.getElem_cons_zero, Act.put, List.setIfInBounds_toArray, List.set_cons_zero, List.set_cons_succ]
          refine wpAnyH_take (i := 20) (v := ?_) rfl (by kernel_rfl) (by kernel_rfl) (by kernel_rfl) (fun _ _ _ h => h) (Or.inl ⟨by rfl, ?_⟩) kQ ?_
          rotate_left
          · (intro w9 hS9; (try dsimp only at hS9); go_simp; (try with_reducible rfl))
          simp only [List.getElem_toArray, List.getElem_cons_succ, List.getElem_cons_zero, Act.put, List.setIfInBounds_toArray, List.set_cons_zero, List.set_cons_succ]
          refine wpAnyH_done (by kernel_rfl) ?_ _
          refine NoPanic.normal ?_
          go_wp2
          go_roundw
          case rel => exact ⟨1, by omega, by go_num, fun i hi => by obtain rfl : i = 0 := by omega
                                                                    exact HR.out, HB1.out⟩
          case measure => simp [intOf]; omega
        · obtain ⟨p, rfl⟩ : ∃ p, k = p + 1 := ⟨k - 1, by omega⟩
          obtain ⟨b2, o2, e, d3, _⟩ := HC.out p (by omega)
          cases e
          have HK2 : Hid (kat l p = l[p].1) := kat_at _
          have c3 : wr.cell? ⟨b, o + p * 2, none⟩ = _ := (HBEL.out.cell (World.block_lt_of_cell? w _ d3)).trans d3
          have hgl := World.block_lt_of_cell? wr _ c3
          simp only at hgl
          generalize l[p].1 = y at *
          have HR : Hid (rightAt n m s l (p + 1) = decide (x ≠ y)) := by
            show _ = _
            rw [HRA.out, Nat.add_sub_cancel, HK.out, HK2.out]; simp
          clear d3 HK HK2 HRA
          have e1 : ((p + 1 : Nat) : Int) = (p : Int) + 1 := by push_cast; rfl
          rw [e1] at p1 p0
          rw [e1]
          have q0 : (0 : Int) < (p : Int) + 1 := by omega
          have q5 : (0 : Int) ≤ (p : Int) := by omega
          have q3 : (p : Int) < (l.length : Int) := by omega
          have q6 : (p : Int) + 1 - 1 = (p : Int) := by omega
          have q7 : IntKind.i64.wrap (p : Int) = (p : Int) := IntWalk.i64_in _ ⟨by omega, by omega⟩
          have q4 : decide ((0 : Int) < (p : Int) + 1) = true := decide_eq_true q0
          have BB := fun {w1 : World} (hb1 : Below (wr.alloc (.cells #[.int .i64 x, .string t] 36)).drew.heap.size (wr.alloc (.cells #[.int .i64 x, .string t] 36)).drew w1) => (Sha.bel_drewN (HBEL.out.alloc hz _) 1 : Below w.heap.size w (wr.alloc (.cells #[.int .i64 x, .string t] 36)).drew).trans (hb1.mono (Sha.bel_drewN (HBEL.out.alloc hz _) 1 : Below w.heap.size w (wr.alloc (.cells #[.int .i64 x, .string t] 36)).drew).size)
          by_cases hxy : x = y
          · have HZ : Hid (z = false) := HNO.out (p + 1) hlt (by rw [HR.out]; simp [hxy])
            have hq : (x == y) = true := by simp [hxy]
            clear hxy
            go_wp2_with fail
            go_region_held3 (fun w' => w'.cell? ⟨wr.heap.size, 0, none⟩ = some (.int .i64 x) ∧ w'.cell? ⟨wr.heap.size, 1, none⟩ = some (.string t) ∧ w'.cell? ⟨b, o + p * 2, none⟩ = some (.int .i64 y))
              (first
                | go_keep
                | (exact kQ))
              ((go_at_call 49; refine (HSR.out _).mono ?_; rintro e w1 ⟨rfl, hb1⟩; have kQ : w1.cell? ⟨wr.heap.size, 0, none⟩ = some (.int .i64 x) ∧ w1.cell? ⟨wr.heap.size, 1, none⟩ = some (.string t) ∧ w1.cell? ⟨b, o + p * 2, none⟩ = some (.int .i64 y) := ⟨(hb1.cell (p := ⟨wr.heap.size, 0, none⟩) (by simp)).trans (by simp), (hb1.cell (p := ⟨wr.heap.size, 1, none⟩) (by simp)).trans (by simp), (hb1.cell (p := ⟨b, o + p * 2, none⟩) (by simp; omega)).trans (((Sha.bel_drewN ((Below.refl wr.heap.size wr).alloc (Nat.le_refl _) (.cells #[.int .i64 x, .string t] 36)) 1 : Below wr.heap.size wr (wr.alloc (.cells #[.int .i64 x, .string t] 36)).drew).cell (p := ⟨b, o + p * 2, none⟩) hgl).trans c3)⟩; have HB1 : Hid (Below w.heap.size w w1) := BB hb1))
            go_wp2
            go_ret
            exact ⟨ret_bool HZ.out.symm, HB1.out⟩
          · have HR2 : Hid (rightAt n m s l (p + 1) = true) := by show _ = _; rw [HR.out]; simp [hxy]
            have hq : (x == y) = false := by simp [hxy]
            clear hxy
            go_wp2_with fail
            go_region_held3 (fun w' => w'.cell? ⟨wr.heap.size, 0, none⟩ = some (.int .i64 x) ∧ w'.cell? ⟨wr.heap.size, 1, none⟩ = some (.string t) ∧ w'.cell? ⟨b, o + p * 2, none⟩ = some (.int .i64 y))
              (first
                | go_keep
                | (exact kQ))
              ((go_at_call 49; refine (HSR.out _).mono ?_; rintro e w1 ⟨rfl, hb1⟩; have kQ : w1.cell? ⟨wr.heap.size, 0, none⟩ = some (.int .i64 x) ∧ w1.cell? ⟨wr.heap.size, 1, none⟩ = some (.string t) ∧ w1.cell? ⟨b, o + p * 2, none⟩ = some (.int .i64 y) := ⟨(hb1.cell (p := ⟨wr.heap.size, 0, none⟩) (by simp)).trans (by simp), (hb1.cell (p := ⟨wr.heap.size, 1, none⟩) (by simp)).trans (by simp), (hb1.cell (p := ⟨b, o + p * 2, none⟩) (by simp; omega)).trans (((Sha.bel_drewN ((Below.refl wr.heap.size wr).alloc (Nat.le_refl _) (.cells #[.int .i64 x, .string t] 36)) 1 : Below wr.heap.size wr (wr.alloc (.cells #[.int .i64 x, .string t] 36)).drew).cell (p := ⟨b, o + p * 2, none⟩) hgl).trans c3)⟩; have HB1 : Hid (Below w.heap.size w w1) := BB hb1))
            go_wp2
            go_roundw
            case rel => exact ⟨p + 2, by omega, by go_num, fun i hi => by
              by_cases hi2 : i = p + 1
              · subst hi2; exact HR2.out
              · exact HOK.out i (by omega), HB1.out⟩
            case measure => simp [intOf]; omega
    · have HZ : Hid (z = true) := HYES.out (fun i hi => HOK.out i (by omega))
      have p1 : ¬ ((k : Int) < (l.length : Int)) := by omega
      go_wp2
      go_ret
      exact ⟨ret_bool HZ.out.symm, HBEL.out⟩
end Go.Proofs.Ytkanhjafchiikaa.Srt
