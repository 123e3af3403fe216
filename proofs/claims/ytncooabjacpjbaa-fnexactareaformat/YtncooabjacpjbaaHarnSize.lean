/- What the laws' own functions that weigh a disk answer. -/
import Derived.Test.YtncooabjacpjbaaSpecDiskRight
namespace Go.Proofs.Ytncooabjacpjbaa.Harn
open Go.RowKit Go.Proofs.Ytncooabjacpjbaa.Mem Go.Proofs.Ytncooabjacpjbaa.Mark

theorem szPend1_in (x : Int) (t : ByteArray) (left : Nat) (w : World) (h : t.size ≤ left) (hl : left ≤ 1048576) :
    Calls Try.prog 35 #[.agg #[.int .i64 x, .string t], .int .i64 (left : Int)] w fun e w' => e = .returned (.int .i64 ((left - t.size : Nat) : Int)) ∧ Below w.heap.size w w' := by
  have e1 : ((left - t.size : Nat) : Int) = (left : Int) - (t.size : Int) := by omega
  rw [e1]
  go_enter Try.func35, Try.ntmps35
  go_wp2
  go_ret
  exact ⟨rfl, (Below.refl _ _).alloc (Nat.le_refl _) _⟩
theorem szPend1_out (x : Int) (t : ByteArray) (left : Nat) (w : World) (h : left < t.size) (ht : t.size ≤ 9223372036854775807) (hl : left ≤ 1048576) :
    Calls Try.prog 35 #[.agg #[.int .i64 x, .string t], .int .i64 (left : Int)] w fun e w' => e = .returned (.int .i64 (-1)) ∧ Below w.heap.size w w' := by
  go_enter Try.func35, Try.ntmps35
  go_wp2
  go_ret
  exact ⟨rfl, (Below.refl _ _).alloc (Nat.le_refl _) _⟩

/-- What a list of pending writes weighs. -/
def wtP (l : List (Int × ByteArray)) : Nat := wt (l.map (·.2))
theorem wtP_take (l : List (Int × ByteArray)) (k : Nat) (h : k < l.length) : wtP (l.take (k + 1)) = wtP (l.take k) + l[k].2.size := by
  unfold wtP
  rw [List.take_succ_eq_append_getElem h, List.map_append, wt_append]
  simp [wt]
theorem wtP_le (l : List (Int × ByteArray)) (k : Nat) : wtP (l.take k) ≤ wtP l := by
  unfold wtP
  rw [List.map_take]
  exact wt_le _ _

set_option maxHeartbeats 1000000 in
theorem szPend_any (v : Value) (l : List (Int × ByteArray)) (left : Nat) (w : World) (h : Pends w v l) (hn : l.length ≤ maxLen) (hl : left ≤ 1048576) (hs : ∀ y ∈ l, y.2.size ≤ maxLen) :
    Calls Try.prog 17 #[v, .int .i64 (left : Int)] w fun e w' => Below w.heap.size w w' ∧ ((∃ r : Nat, e = .returned (.int .i64 (r : Int)) ∧ r + l.length + wtP l = left) ∨ (e = .returned (.int .i64 (-1)) ∧ left < l.length + wtP l)) := by
  obtain ⟨a, cap, rfl, hc⟩ := h
  have HC : Hid (∀ j (h : j < l.length), ∃ b o, a = some ⟨b, o, none⟩ ∧ w.cell? ⟨b, o + j * 2, none⟩ = some (.int .i64 l[j].1) ∧ w.cell? ⟨b, o + j * 2 + 1, none⟩ = some (.string l[j].2)) := hc
  have HSS : Hid (∀ y ∈ l, y.2.size ≤ maxLen) := hs
  unfold maxLen at hn
  clear hc hs
  by_cases h0 : left < l.length
  · go_enter Try.func17, Try.ntmps17
    go_wp2
    go_ret
    exact ⟨Below.refl _ _, .inr ⟨rfl, by omega⟩⟩
  · go_enter Try.func17, Try.ntmps17
    go_wp2
    go_loopw [1, 5] (fun r i wr => Below w.heap.size w wr ∧ ∃ k r' : Nat, k ≤ l.length ∧ i = .int .i64 k ∧ r = .int .i64 (r' : Int) ∧ r' + l.length + wtP (l.take k) = left) (fun _ i _ => l.length - (intOf i).toNat)
    case atStart => exact ⟨Below.refl _ _, 0, left - l.length, by omega, rfl, by congr 1; omega, by simp [wtP, wt]; omega⟩
    case round =>
      obtain ⟨hbel, k, r', hk, rfl, rfl, hr⟩ := hrel
      by_cases hlt : k < l.length
      · obtain ⟨b, o, rfl, d1, d2⟩ := HC.out k hlt
        have c1 : wr.cell? ⟨b, o + k * 2, none⟩ = _ := (hbel.cell (World.block_lt_of_cell? w _ d1)).trans d1
        have c2 : wr.cell? ⟨b, o + k * 2 + 1, none⟩ = _ := (hbel.cell (World.block_lt_of_cell? w _ d2)).trans d2
        have p1 : (k : Int) < (l.length : Int) := by omega
        have hw := wtP_take l k hlt
        have hle := wtP_le l (k + 1)
        have hts : l[k].2.size ≤ 9223372036854775807 := HSS.out _ (List.getElem_mem hlt)
        generalize l[k].1 = x at *
        generalize l[k].2 = t at *
        have HB : Hid (Below w.heap.size w wr) := hbel
        clear d1 d2 hbel
        by_cases hbig : r' < t.size
        · have KO : Hid (∀ W, Calls Try.prog 35 #[.agg #[.int .i64 x, .string t], .int .i64 (r' : Int)] W fun e w' => e = .returned (.int .i64 (-1)) ∧ Below W.heap.size W w') := fun W => szPend1_out x t r' W hbig hts (by omega)
          go_wp2_with (go_at_call 35; refine (KO.out _).mono ?_; rintro e w1 ⟨rfl, hb1⟩)
          go_ret
          exact ⟨HB.out.trans (hb1.mono HB.out.size), .inr ⟨rfl, by omega⟩⟩
        · have KI : Hid (∀ W, Calls Try.prog 35 #[.agg #[.int .i64 x, .string t], .int .i64 (r' : Int)] W fun e w' => e = .returned (.int .i64 ((r' - t.size : Nat) : Int)) ∧ Below W.heap.size W w') := fun W => szPend1_in x t r' W (by omega) (by omega)
          obtain ⟨r2, hr2⟩ : ∃ r2, r2 = r' - t.size := ⟨_, rfl⟩
          rw [← hr2] at KI
          have HR2 : Hid (r2 = r' - t.size) := hr2
          clear hr2
          go_wp2_with (go_at_call 35; refine (KI.out _).mono ?_; rintro e w1 ⟨rfl, hb1⟩)
          have hr3 := HR2.out
          go_roundw
          case rel => exact ⟨HB.out.trans (hb1.mono HB.out.size), k + 1, r2, by omega, by go_num, rfl, by omega⟩
          case measure => simp [intOf]; omega
      · have e : k = l.length := by omega
        subst e
        rw [List.take_length] at hr
        go_wp2
        go_ret
        exact ⟨hbel, .inl ⟨r', rfl, hr⟩⟩
end Go.Proofs.Ytncooabjacpjbaa.Harn
