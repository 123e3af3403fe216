/- What the program's hasSector, copyTexts and copyDisk answer. -/
import Derived.Test.YtncooabjacpjbaaOwnDisk2
import Derived.Test.YtncooabjacpjbaaJoin
import Derived.Test.YtncooabjacpjbaaSpecDiskRight
import Derived.Deep.DrawnRows
namespace Go.Proofs.Ytncooabjacpjbaa.Disk
open Go.RowKit Go.Proofs.Ytncooabjacpjbaa.Mem Go.Proofs.Ytncooabjacpjbaa.Harn

theorem has_yes (va : Option Addr) (n c : Nat) (vp : Value) (x : Int) (w : World) (h0 : 0 ≤ x) (h1 : x < n) : Calls Try.prog 38 #[.agg #[.slice va n c, vp], .int .i64 x] w fun e w' => e = .returned (.bool true) ∧ Below w.heap.size w w' := by
  go_enter Try.func38, Try.ntmps38
  go_wp2
  go_ret
  exact ⟨rfl, (Below.refl _ _).alloc (Nat.le_refl _) _⟩
theorem has_no (va : Option Addr) (n c : Nat) (vp : Value) (x : Int) (w : World) (h : x < 0 ∨ (n : Int) ≤ x) : Calls Try.prog 38 #[.agg #[.slice va n c, vp], .int .i64 x] w fun e w' => e = .returned (.bool false) ∧ Below w.heap.size w w' := by
  by_cases h0 : x < 0
  · clear h
    go_enter Try.func38, Try.ntmps38
    go_wp2
    go_ret
    exact ⟨rfl, (Below.refl _ _).alloc (Nat.le_refl _) _⟩
  · have h1 : (n : Int) ≤ x := by omega
    have h2 : 0 ≤ x := by omega
    have h3 : ¬ x < (n : Int) := by omega
    have h4 : decide (x < (n : Int)) = false := decide_eq_false h3
    clear h h0
    go_enter Try.func38, Try.ntmps38
    go_wp2
    go_ret
    exact ⟨rfl, (Below.refl _ _).alloc (Nat.le_refl _) _⟩

theorem join_empty (t : ByteArray) (w : World) (h : t.size ≤ 2000000) : Calls Try.prog 53 #[.string ByteArray.empty, .string t] w fun e w' => e = .returned (.string t) ∧ Below w.heap.size w w' := by
  refine (Join.join_any ByteArray.empty t w (by simp) (by omega)).mono ?_
  rintro e w' ⟨rfl, h2⟩
  exact ⟨by simp, h2⟩

set_option maxHeartbeats 1000000 in
theorem copyTexts_any (v : Value) (l : List ByteArray) (w : World) (h : Strs w v l) (hn : l.length ≤ 1100000) (hs : ∀ t ∈ l, t.size ≤ 2000000) :
    Calls Try.prog 54 #[v] w fun e w' => e = .returned (.slice (some ⟨w.heap.size, 0, none⟩) l.length l.length) ∧ HasRow w' w.heap.size (l.map Value.string) 9 ∧ Below w.heap.size w w' ∧ w.heap.size < w'.heap.size := by
  obtain ⟨a, cap, rfl, hc⟩ := h
  have HC : Hid (∀ j (h : j < l.length), ∃ b o, a = some ⟨b, o, none⟩ ∧ w.cell? ⟨b, o + j, none⟩ = some (.string l[j])) := hc
  have HSS : Hid (∀ t ∈ l, t.size ≤ 2000000) := hs
  obtain ⟨W1, hmk, hr1, hb1, hz1⟩ := make_strs l.length (by omega) w
  have HR : Hid _ := hr1
  have HB : Hid (Below w.heap.size w W1) := hb1
  have HZ : Hid (w.heap.size < W1.heap.size) := by unfold Hid; omega
  clear hc hr1 hb1 hz1 hs
  go_enter Try.func54, Try.ntmps54
  go_wp2
  go_loopw [11] (fun i wr => ∃ k : Nat, k ≤ l.length ∧ i = .int .i64 k ∧ HasRow wr w.heap.size (copyTo l k) 9 ∧ Below w.heap.size w wr ∧ w.heap.size < wr.heap.size) (fun i _ => l.length - (intOf i).toNat)
  case atStart => exact ⟨0, by omega, rfl, by rw [copyTo_start]; exact HR.out, HB.out, HZ.out⟩
  case round =>
    clear HR HB HZ
    obtain ⟨k, hk, rfl, hrow, hbel, hsz⟩ := hrel
    by_cases hlt : k < l.length
    · obtain ⟨b, o, rfl, hcell⟩ := HC.out k hlt
      have c1 : wr.cell? ⟨b, o + k, none⟩ = some (.string l[k]) := by rw [hbel.cell (World.block_lt_of_cell? w _ hcell)]; exact hcell
      have HJ : Hid (∀ W, Calls Try.prog 53 #[.string ByteArray.empty, .string l[k]] W fun e w' => e = .returned (.string l[k]) ∧ Below W.heap.size W w') := fun W => join_empty _ W (HSS.out _ (List.getElem_mem hlt))
      have HSET : Hid ((copyTo l k).set k (.string l[k]) = copyTo l (k + 1)) := copyTo_set l k hlt
      have HCEL : Hid ((copyTo l k)[k]? = some (.string ByteArray.empty)) := copyTo_cell l k hlt
      have HROW : Hid (HasRow wr w.heap.size (copyTo l k) 9) := hrow
      have HBEL : Hid (Below w.heap.size w wr) := hbel
      have p1 : (k : Int) < (l.length : Int) := by omega
      generalize l[k] = t at *
      clear hrow hcell hbel
      go_wp2_with (go_at_call 53; refine (HJ.out _).mono ?_; rintro e w1 ⟨rfl, hb1⟩; have hr1 : HasRow w1 w.heap.size (copyTo l k) 9 := Sha.row_below HROW.out hb1 hsz; have c2 : w1.cell? ⟨w.heap.size, k, none⟩ = some (.string ByteArray.empty) := (Mem.cell_of_row hr1 k).trans HCEL.out; have hfz := Mem.frozen_of_row hr1 k; have HR1 : Hid _ := hr1; have HB1 : Hid _ := hb1; have hz1 := hb1.size; clear hr1 hb1)
      go_roundw
      case rel => exact ⟨k + 1, by omega, by go_num, by rw [← HSET.out]; exact row_set HR1.out _ _, (HBEL.out.trans (HB1.out.mono HBEL.out.size)).setCell (p := ⟨w.heap.size, k, none⟩) (Nat.le_refl _) _, by simp; omega⟩
      case measure => simp [intOf]; omega
    · have e : k = l.length := by omega
      subst e
      rw [copyTo_end] at hrow
      have HR : Hid _ := hrow
      have HB : Hid (Below w.heap.size w wr) := hbel
      clear hrow hbel
      go_wp2
      go_ret
      exact ⟨rfl, HR.out, HB.out, hsz⟩
end Go.Proofs.Ytncooabjacpjbaa.Disk
