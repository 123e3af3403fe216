/- What the program's look at rising shards answers. -/
import Derived.Test.YtkanhjafchiikabTextsA
import Derived.Test.YtkanhjafchiikabImplCut
import Derived.Deep.QuietTactic
import Derived.BigQuiet
namespace Go.Proofs.Ytkanhjafchiikab.Srt
open Go.RowKit Go.Proofs.Ytkanhjafchiikab.Mem Go.Proofs.Ytkanhjafchiikab.Harn Go.Proofs.Ytkanhjafchiikab.Gf

theorem ret_bool {a b : Bool} (h : a = b) : Ending.returned (.bool a) = .returned (.bool b) := by rw [h]
/-- may this be a shard of a text of s bytes, of n and m pieces? -/
def okS (n m s : Nat) (x : E) : Bool := decide (0 ≤ x.1) && decide (x.1 < (n : Int) + m) && decide (x.2.size = plen n s)

set_option maxRecDepth 100000 in
set_option maxHeartbeats 1000000 in
theorem shardRight_any (x : Int) (t : ByteArray) (n m s : Nat) (w : World) (hn : 0 < n) (hn2 : n ≤ 100) (hm : m ≤ 100) (hs : s ≤ 1000) :
    Calls Try.prog 46 #[.agg #[.int .i64 x, .string t], .int .i64 (n : Nat), .int .i64 (m : Nat), .int .i64 (s : Nat)] w fun e w' => e = .returned (.bool (okS n m s (x, t))) ∧ Below w.heap.size w w' := by
  have HE : Hid (okS n m s (x, t) = (decide (0 ≤ x) && decide (x < (n : Int) + m) && decide (t.size = plen n s))) := rfl
  have HPS : Hid (∀ W, Calls Try.prog 42 #[.int .i64 (n : Nat), .int .i64 (s : Nat)] W fun e w' => e = .returned (.int .i64 (plen n s : Nat)) ∧ w' = W) := fun W => (pieceSize_any n s W hn (by omega) hs).mono fun _ _ h => ⟨h.1, h.2.symm⟩
  generalize okS n m s (x, t) = z at *
  have hpl := plen_small (need := n) (size := s) hn
  generalize plen n s = L at *
  by_cases h0 : 0 ≤ x
  · by_cases h1 : x < (n : Int) + (m : Int)
    · have HE' : Hid (z = decide (t.size = L)) := by show _ = _; rw [HE.out, decide_eq_true h0, decide_eq_true h1]; rfl
      have hq : (((t.size : Int)) == (L : Int)) = decide (t.size = L) := by
        by_cases e : t.size = L
        · rw [decide_eq_true e, beq_iff_eq]; omega
        · rw [decide_eq_false e, beq_eq_false_iff_ne]; omega
      have d0 : decide (0 ≤ x) = true := decide_eq_true h0
      have d1 : decide (x < (n : Int) + (m : Int)) = true := decide_eq_true h1
      clear HE
      go_enter Try.func46, Try.ntmps46
      go_wp2_with fail
      go_quiet ((go_at_call 42; exact Calls.quiet_of_same (HPS.out _)))
      go_wp2
      go_ret
      exact ⟨ret_bool HE'.out.symm, Sha.bel_drewN ((Below.refl _ _).alloc (Nat.le_refl _) _) _⟩
    · have HE' : Hid (z = false) := by show _ = _; rw [HE.out, decide_eq_false h1]; simp
      have d0 : decide (0 ≤ x) = true := decide_eq_true h0
      have d1 : decide (x < (n : Int) + (m : Int)) = false := decide_eq_false h1
      clear HE
      go_enter Try.func46, Try.ntmps46
      go_wp2_with fail
      go_quiet (fail)
      go_wp2
      go_ret
      exact ⟨ret_bool HE'.out.symm, Sha.bel_drewN ((Below.refl _ _).alloc (Nat.le_refl _) _) _⟩
  · have HE' : Hid (z = false) := by show _ = _; rw [HE.out, decide_eq_false h0]; simp
    have d0 : decide (0 ≤ x) = false := decide_eq_false h0
    clear HE
    go_enter Try.func46, Try.ntmps46
    go_wp2_with fail
    go_quiet (fail)
    go_wp2
    go_ret
    exact ⟨ret_bool HE'.out.symm, Sha.bel_drewN ((Below.refl _ _).alloc (Nat.le_refl _) _) _⟩

/-- are these rising shards those of a text? -/
def rightAt (n m s : Nat) (l : List E) (i : Nat) : Bool := okS n m s (l[i]?.getD dE) && (decide (i = 0) || decide (kat l i ≠ kat l (i - 1)))
def rightB (n m s : Nat) (l : List E) : Bool := (List.range l.length).all (rightAt n m s l)
theorem rightB_no {n m s : Nat} {l : List E} {i : Nat} (hi : i < l.length) (h : rightAt n m s l i = false) : rightB n m s l = false := by
  unfold rightB; rw [List.all_eq_false]; exact ⟨i, by simpa using hi, by simp [h]⟩
theorem rightB_yes {n m s : Nat} {l : List E} (h : ∀ i, i < l.length → rightAt n m s l i = true) : rightB n m s l = true := by
  unfold rightB; rw [List.all_eq_true]; intro i hi; exact h i (by simpa using hi)
end Go.Proofs.Ytkanhjafchiikab.Srt
