/- What the program's GetNum answers, by contracts. -/
import Derived.Test.YtkanhjafchiikaaDoorReadNum
import Derived.Test.YtkanhjafchiikaaDoorAsFault
namespace Go.Proofs.YtkanhjafchiikaaDoor.GetNum
open Go.RowKit Go.Proofs.YtkanhjafchiikaaDoor.Scope

/-- What the variable errors.errorType holds. -/
def Laid (w : World) : Prop := w.cell? ⟨0, 0, none⟩ = some (.iface 95 (.agg #[.pointer (some ⟨1, 66, none⟩)]))

theorem laid_pos {w : World} (h : Laid w) : 0 < w.heap.size := World.block_lt_of_cell? w ⟨0, 0, none⟩ h

theorem laid_below {w w' : World} (h : Laid w) (hb : Below w.heap.size w w') : Laid w' := by
  have := hb.cell (p := ⟨0, 0, none⟩) (laid_pos h)
  unfold Laid at *
  rw [this]; exact h

theorem bcell {W w1 : World} (hb : Below W.heap.size W w1) : (∀ b o, b < W.heap.size → w1.cell? ⟨b, o, none⟩ = W.cell? ⟨b, o, none⟩) ∧ (∀ b o, b < W.heap.size → w1.frozen? ⟨b, o, none⟩ = W.frozen? ⟨b, o, none⟩) :=
  ⟨fun b o h => hb.cell (p := ⟨b, o, none⟩) h, fun b o h => hb.frozen (p := ⟨b, o, none⟩) h⟩

theorem bstep {w a b : World} (h : Below w.heap.size w a) (k : Below a.heap.size a b) : Below w.heap.size w b := h.trans (k.mono h.size)
theorem balloc {w a : World} (h : Below w.heap.size w a) (o : Obj) : Below w.heap.size w (a.alloc o) := h.alloc h.size o

theorem xor_ones (a : Nat) (h : a < 18446744073709551616) : 18446744073709551615 ^^^ a = 18446744073709551615 - a := by
  have h1 : (BitVec.allOnes 64 ^^^ BitVec.ofNat 64 a).toNat = 18446744073709551615 ^^^ a := by
    rw [BitVec.toNat_xor, BitVec.toNat_allOnes, BitVec.toNat_ofNat, Nat.mod_eq_of_lt (by simpa using h)]
  rw [← h1, BitVec.allOnes_xor, BitVec.toNat_not, BitVec.toNat_ofNat, Nat.mod_eq_of_lt (by simpa using h)]

theorem max64 : IntKind.u64.max = 18446744073709551615 := by simp [IntKind.max, IntKind.bits, IntKind.signed]

theorem unfold_bits {u : Nat} (hu : (u : Int) ≤ 18446744073709551615) (h : u % 2 = 1) : wrap64 (bits .xor .u64 IntKind.u64.max ((u : Int) / 2)) = unfoldI u := by
  have h1 := u64_xor_nat 18446744073709551615 (u / 2) (by decide) (by omega)
  rw [xor_ones _ (by omega)] at h1
  have e : ((u : Int) / 2) = ((u / 2 : Nat) : Int) := by omega
  rw [max64, e]
  refine (congrArg wrap64 h1).trans ?_
  unfold wrap64 unfoldI
  rw [if_pos h]
  omega

theorem and1 {u : Nat} (hu : (u : Int) ≤ 18446744073709551615) : bits .and .u64 (u : Int) 1 = ((u % 2 : Nat) : Int) := by
  have := u64_and_nat u 1 (by omega) (by decide)
  rw [Nat.and_one_is_mod] at this
  exact this

theorem ret_int {k : IntKind} {a b : Int} (h : a = b) : Ending.returned (.int k a) = .returned (.int k b) := by rw [h]

set_option maxRecDepth 100000 in
theorem unfold_any (u : Nat) (w : World) (hu : (u : Int) ≤ 18446744073709551615) :
    Calls Tryd.prog 41 #[.int .u64 u] w fun e w' => e = .returned (.int .i64 (unfoldI u)) ∧ w = w' := by
  by_cases h : u % 2 = 1
  · have ht : (bits .and .u64 (u : Int) 1 == 1) = true := by rw [and1 hu, h]; rfl
    have HB : Hid (wrap64 (bits .xor .u64 IntKind.u64.max ((u : Int) / 2)) = unfoldI u) := unfold_bits hu h
    clear h
    go_enter Tryd.func41, Tryd.ntmps41
    go_wp2
    go_ret
    exact ⟨ret_int HB.out, rfl⟩
  · have ht : (bits .and .u64 (u : Int) 1 == 1) = false := by rw [and1 hu, beq_eq_false_iff_ne]; omega
    have HB : Hid (((u : Int) / 2) = unfoldI u) := unfold_even h
    clear h
    go_enter Tryd.func41, Tryd.ntmps41
    go_wp2
    go_ret
    exact ⟨ret_int HB.out, rfl⟩

theorem implGetNum_big (s : ByteArray) (a : Int) (w : World) (hs : 8000 < (s.size : Int)) :
    Calls Tryd.prog 24 #[.string s, .int .i64 a] w fun e w' => e = .returned (.agg #[.int .i64 0, .int .i64 0, .int .i64 2]) ∧ Below w.heap.size w w' := by
  go_enter Tryd.func24, Tryd.ntmps24
  go_wp2
  exact bodyPost_ret (v := .agg #[.int .i64 0, .int .i64 0, .int .i64 2]) (by simp [results, Tryd.results24, go_sem]) rfl ⟨rfl, (Below.refl _ _).alloc (Nat.le_refl _) _⟩

set_option maxRecDepth 100000 in
set_option maxHeartbeats 1000000 in
theorem implGetNum_code (s : ByteArray) (a : Int) (w : World) (cd : Nat) (hs : (s.size : Int) ≤ 8000) (hL : Laid w)
    (K : ∀ w, Calls Tryd.prog 39 #[.string s, .int .i64 a] w fun e w' => e = .returned (.tuple #[.int .u64 0, .int .i64 0, .iface 77 (.agg #[.int .i64 (cd : Nat)])]) ∧ Below w.heap.size w w') :
    Calls Tryd.prog 24 #[.string s, .int .i64 a] w fun e w' => e = .returned (.agg #[.int .i64 0, .int .i64 0, .int .i64 (cd : Nat)]) ∧ Below w.heap.size w w' := by
  have HK : Hid _ := K
  have HL : Hid (Laid w) := hL
  clear K hL
  go_enter Tryd.func24, Tryd.ntmps24
  go_wp2_with (first | (go_at_call 39; refine (HK.out _).mono ?_; rintro e w1 ⟨rfl, hb1⟩; obtain ⟨hcc, hff⟩ := bcell hb1; have hsz := hb1.size; simp at hcc hff hsz))
  have hL1 : Laid w1 := laid_below (laid_below HL.out ((Below.refl _ _).alloc (Nat.le_refl _) _)) hb1
  have hlt : w.heap.size < w1.heap.size := by omega
  refine (AsFault.codeOf_any cd w1 hL1).mono ?_
  rintro e w2 ⟨rfl, hb2⟩
  obtain ⟨hcc2, hff2⟩ := bcell hb2
  clear hL1
  go_wp2
  refine bodyPost_ret (v := .agg #[.int .i64 0, .int .i64 0, .int .i64 (cd : Nat)]) ?_ rfl ⟨rfl, ?_⟩
  · simp [results, Tryd.results24, go_sem, hcc, hcc2, hlt]
  · have hB1 : Below w.heap.size w w2 := bstep (bstep (balloc (Below.refl _ _) _) hb1) hb2
    exact ((hB1.setCell (Nat.le_refl _) _).setCell (Nat.le_refl _) _).setCell (Nat.le_refl _) _

set_option maxRecDepth 100000 in
set_option maxHeartbeats 1000000 in
theorem implGetNum_ok (s : ByteArray) (a : Int) (w : World) (y p : Nat) (hs : (s.size : Int) ≤ 8000) (hy : (y : Int) ≤ 18446744073709551615)
    (K : ∀ w, Calls Tryd.prog 39 #[.string s, .int .i64 a] w fun e w' => e = .returned (.tuple #[.int .u64 (y : Nat), .int .i64 (p : Nat), .nilIface]) ∧ Below w.heap.size w w') :
    Calls Tryd.prog 24 #[.string s, .int .i64 a] w fun e w' => e = .returned (.agg #[.int .i64 (unfoldI y), .int .i64 (p : Nat), .int .i64 0]) ∧ Below w.heap.size w w' := by
  have HK : Hid _ := K
  clear K
  go_enter Tryd.func24, Tryd.ntmps24
  go_wp2_with (first | (go_at_call 39; refine (HK.out _).mono ?_; rintro e w1 ⟨rfl, hb1⟩; obtain ⟨hcc, hff⟩ := bcell hb1; have hsz := hb1.size; simp at hcc hff hsz) | (go_at_call 41; refine (unfold_any y _ hy).mono ?_; rintro e w2 ⟨rfl, rfl⟩))
  refine bodyPost_ret (v := .agg #[.int .i64 (unfoldI y), .int .i64 (p : Nat), .int .i64 0]) ?_ rfl ⟨rfl, ?_⟩
  · simp [results, Tryd.results24, go_sem, hcc]
  · have hB1 : Below w.heap.size w w1 := bstep (balloc (Below.refl _ _) _) hb1
    exact ((hB1.setCell (Nat.le_refl _) _).setCell (Nat.le_refl _) _).setCell (Nat.le_refl _) _

/-- What GetNum answers, of whatever text and place. -/
structure Ans (s : ByteArray) (n p c : Int) : Prop where
  n1 : -9223372036854775808 ≤ n
  n2 : n ≤ 9223372036854775807
  ok : c = 0 → 0 ≤ p ∧ p ≤ s.size ∧ (s.size : Int) ≤ 8000

end Go.Proofs.YtkanhjafchiikaaDoor.GetNum
