/- Laws that the proof rests on, put together: How a number is read from its bytes, as a function of numbers. A scope in which the run jumps to several labels: what holds at every jump, and a measure that every pass from a label lowers. Laws on rows of bytes that a call makes: made, copied into, read as a text. The texts that mark a place, as a function of their number. Whole arrays out of and into a row. Rows behind new blocks, stores elsewhere, draws and calls. Laws on a slice of bytes that the call itself appends to. The bytes of a number, as a function of numbers. The CRC of chapter 2 as a function of numbers, and its bounds. -/
import Derived.WalkKit
import Derived.Laws.BitsAllLaws
import Derived.ScopeJumps
import Derived.WalkMore
import Derived.Below
import Derived.Deep.OwnRows
import Derived.Lib.BufferWrite
import Derived.Laws.CopyOwn
import Derived.Laws.IdiomStrings
import Derived.Deep.WholeRow
import Derived.Deep.Draws
/- How a number is read from its bytes, as a function of numbers. -/
namespace Go.Proofs.YtkanhjafchiikaaDoor.GetNum
open Go.RowKit

/-- From round k on, u gathered so far: the code, the number ahead of unfolding, the place behind it. -/
def rdK (s : ByteArray) (p : Nat) : Nat → Nat → Nat → Nat × Nat × Nat
  | 0, _, _ => (3, 0, 0)
  | f + 1, k, u =>
    if s.size ≤ p + k then (4, 0, 0)
    else if k = 9 ∧ 1 < (s[p + k]?.getD 0).toNat then (3, 0, 0)
    else if (s[p + k]?.getD 0).toNat < 128 then
      if (s[p + k]?.getD 0).toNat = 0 ∧ 0 < k then (3, 0, 0) else (0, u + (s[p + k]?.getD 0).toNat * 2 ^ (7 * k), p + k + 1)
    else rdK s p f (k + 1) (u + ((s[p + k]?.getD 0).toNat - 128) * 2 ^ (7 * k))

def rd (s : ByteArray) (p : Nat) : Nat × Nat × Nat := rdK s p 10 0 0

/-- What holds at a round's head. -/
def Inv (s : ByteArray) (p k u : Nat) : Prop := k ≤ 9 ∧ u < 2 ^ (7 * k) ∧ rdK s p (10 - k) k u = rd s p

theorem inv_start (s : ByteArray) (p : Nat) : Inv s p 0 0 := ⟨by omega, by decide, rfl⟩

theorem inv_short {s : ByteArray} {p k u : Nat} (h : Inv s p k u) (hs : s.size ≤ p + k) : rd s p = (4, 0, 0) := by
  obtain ⟨h1, _, h3⟩ := h
  rw [← h3, show 10 - k = (9 - k) + 1 by omega, rdK, if_pos hs]

theorem inv_wide {s : ByteArray} {p k u : Nat} (h : Inv s p k u) (hs : p + k < s.size) (hk : k = 9) (hc : 1 < (s[p + k]?.getD 0).toNat) : rd s p = (3, 0, 0) := by
  obtain ⟨h1, _, h3⟩ := h
  rw [← h3, show 10 - k = (9 - k) + 1 by omega, rdK, if_neg (by omega), if_pos ⟨hk, hc⟩]

theorem inv_long {s : ByteArray} {p k u : Nat} (h : Inv s p k u) (hs : p + k < s.size) (hk : 0 < k) (hc : (s[p + k]?.getD 0).toNat = 0) : rd s p = (3, 0, 0) := by
  obtain ⟨h1, _, h3⟩ := h
  rw [← h3, show 10 - k = (9 - k) + 1 by omega, rdK, if_neg (by omega), if_neg (by omega), if_pos (by omega), if_pos ⟨hc, hk⟩]

theorem inv_done {s : ByteArray} {p k u : Nat} (h : Inv s p k u) (hs : p + k < s.size) (h9 : ¬ (k = 9 ∧ 1 < (s[p + k]?.getD 0).toNat)) (hc : (s[p + k]?.getD 0).toNat < 128) (h0 : ¬ ((s[p + k]?.getD 0).toNat = 0 ∧ 0 < k)) :
    rd s p = (0, u + (s[p + k]?.getD 0).toNat * 2 ^ (7 * k), p + k + 1) := by
  obtain ⟨h1, _, h3⟩ := h
  rw [← h3, show 10 - k = (9 - k) + 1 by omega, rdK, if_neg (by omega), if_neg h9, if_pos hc, if_neg h0]

theorem byte_lt (c : UInt8) : c.toNat < 256 := c.toNat_lt

theorem inv_step {s : ByteArray} {p k u : Nat} (h : Inv s p k u) (hs : p + k < s.size) (h9 : ¬ (k = 9 ∧ 1 < (s[p + k]?.getD 0).toNat)) (hc : 128 ≤ (s[p + k]?.getD 0).toNat) : k ≤ 8 ∧ Inv s p (k + 1) (u + ((s[p + k]?.getD 0).toNat - 128) * 2 ^ (7 * k)) := by
  obtain ⟨h1, h2, h3⟩ := h
  have hk : k ≤ 8 := by
    rcases Nat.lt_or_ge k 9 with g | g
    · omega
    · exact absurd ⟨by omega, by omega⟩ h9
  have hb := byte_lt (s[p + k]?.getD 0)
  refine ⟨hk, by omega, ?_, ?_⟩
  · generalize (s[p + k]?.getD 0).toNat = c at *
    have e : 2 ^ (7 * (k + 1)) = 128 * 2 ^ (7 * k) := by rw [Nat.mul_add, Nat.pow_add, Nat.mul_comm]
    rw [e]
    have : (c - 128) * 2 ^ (7 * k) ≤ 127 * 2 ^ (7 * k) := Nat.mul_le_mul_right _ (by omega)
    omega
  · rw [← h3, show 10 - k = (9 - k) + 1 by omega, rdK, if_neg (by omega), if_neg h9, if_neg (by omega), show 10 - (k + 1) = 9 - k by omega]

theorem pow_le {k : Nat} (h : k ≤ 8) : 2 ^ (7 * k) ≤ 72057594037927936 := by
  have : 2 ^ (7 * k) ≤ 2 ^ 56 := Nat.pow_le_pow_right (by omega) (by omega)
  simpa using this

/-- Of the bits of a byte, shifted: they fit where k is at most 8. -/
theorem shift_fits {k x : Nat} (h : k ≤ 8) (hx : x < 128) : x * 2 ^ (7 * k) < 9223372036854775808 := by
  have h1 := pow_le h
  have h2 : x * 2 ^ (7 * k) ≤ 127 * 2 ^ (7 * k) := Nat.mul_le_mul_right _ (by omega)
  omega

theorem shift_fits9 {x : Nat} (hx : x ≤ 1) : x * 2 ^ (7 * 9) < 18446744073709551616 := by
  have h2 : x * 2 ^ (7 * 9) ≤ 1 * 2 ^ (7 * 9) := Nat.mul_le_mul_right _ hx
  omega

theorem sum_fits {k u x : Nat} (h : k ≤ 9) (hu : u < 2 ^ (7 * k)) (hx : x < 128) (h9 : k = 9 → x ≤ 1) : x * 2 ^ (7 * k) < 18446744073709551616 ∧ u + x * 2 ^ (7 * k) < 18446744073709551616 := by
  rcases Nat.lt_or_ge k 9 with g | g
  · have h1 := shift_fits (k := k) (x := x) (by omega) hx
    have h2 := pow_le (k := k) (by omega)
    omega
  · obtain rfl : k = 9 := by omega
    have h1 : x * 2 ^ (7 * 9) ≤ 1 * 2 ^ (7 * 9) := Nat.mul_le_mul_right _ (h9 rfl)
    have h2 : 2 ^ (7 * 9) = 9223372036854775808 := by decide
    omega

theorem or_eq_add {k u x : Nat} (hu : u < 2 ^ (7 * k)) : u ||| x * 2 ^ (7 * k) = u + x * 2 ^ (7 * k) := by
  rw [Nat.or_comm, Nat.mul_comm, ← Nat.two_pow_add_eq_or_of_lt hu, Nat.add_comm]

def unfoldI (u : Nat) : Int := if u % 2 = 1 then -((u / 2 : Nat) : Int) - 1 else ((u / 2 : Nat) : Int)

theorem unfold_bd {u : Nat} (h : u < 18446744073709551616) : -9223372036854775808 ≤ unfoldI u ∧ unfoldI u ≤ 9223372036854775807 := by
  unfold unfoldI; split <;> omega

theorem rdK_cases (s : ByteArray) (p : Nat) : ∀ f k u, k + f = 10 → u < 2 ^ (7 * k) →
    (∃ y q, rdK s p f k u = (0, y, q) ∧ y < 18446744073709551616 ∧ q ≤ s.size) ∨ rdK s p f k u = (3, 0, 0) ∨ rdK s p f k u = (4, 0, 0)
  | 0, _, _, _, _ => .inr (.inl rfl)
  | f + 1, k, u, hk, hu => by
    rw [rdK]
    split
    · exact .inr (.inr rfl)
    · rename_i hlt
      split
      · exact .inr (.inl rfl)
      · rename_i h9
        have hb := byte_lt (s[p + k]?.getD 0)
        split
        · rename_i hc
          split
          · exact .inr (.inl rfl)
          · exact .inl ⟨_, _, rfl, (sum_fits (by omega) hu hc (fun e => by omega)).2, by omega⟩
        · rename_i hc
          refine rdK_cases s p f (k + 1) _ (by omega) ?_
          generalize (s[p + k]?.getD 0).toNat = c at *
          have e : 2 ^ (7 * (k + 1)) = 128 * 2 ^ (7 * k) := by rw [Nat.mul_add, Nat.pow_add, Nat.mul_comm]
          rw [e]
          have : (c - 128) * 2 ^ (7 * k) ≤ 127 * 2 ^ (7 * k) := Nat.mul_le_mul_right _ (by omega)
          omega

theorem rd_cases (s : ByteArray) (p : Nat) : (∃ y q, rd s p = (0, y, q) ∧ y < 18446744073709551616 ∧ q ≤ s.size) ∨ rd s p = (3, 0, 0) ∨ rd s p = (4, 0, 0) :=
  rdK_cases s p 10 0 0 rfl (by decide)
theorem at_lt (s : ByteArray) (k : Nat) (h : k < s.size) : s[k]?.getD 0 = s[k] := by simp [h]

theorem wrap_shift {k u c : Nat} (h : k ≤ 9) (hu : u < 2 ^ (7 * k)) (h9 : k = 9 → c % 128 ≤ 1) :
    IntKind.u64.wrap ((c : Int) % 128 * 2 ^ (7 * k)) = ((c % 128 * 2 ^ (7 * k) : Nat) : Int) ∧ IntKind.u64.wrap ((u : Int) + ((c % 128 * 2 ^ (7 * k) : Nat) : Int)) = ((u + c % 128 * 2 ^ (7 * k) : Nat) : Int) := by
  obtain ⟨h1, h2⟩ := sum_fits (x := c % 128) h hu (Nat.mod_lt _ (by omega)) h9
  have e : (c : Int) % 128 * 2 ^ (7 * k) = ((c % 128 * 2 ^ (7 * k) : Nat) : Int) := by simp
  rw [e]
  generalize c % 128 * 2 ^ (7 * k) = z at *
  exact ⟨IntWalk.u64_in _ ⟨by omega, by omega⟩, by rw [IntWalk.u64_in _ ⟨by omega, by omega⟩]; omega⟩

theorem unfold_odd {y : Nat} (h : y % 2 = 1) : -((y : Int) / 2) - 1 = unfoldI y := by
  unfold unfoldI; rw [if_pos h]; omega
theorem unfold_even {y : Nat} (h : ¬ y % 2 = 1) : ((y : Int) / 2) = unfoldI y := by
  unfold unfoldI; rw [if_neg h]; omega

end Go.Proofs.YtkanhjafchiikaaDoor.GetNum

/- A scope in which the run jumps to several labels: what holds at every jump, and a measure that every pass from a label lowers. -/
namespace Go.Proofs.YtkanhjafchiikaaDoor.Scope

/-- As Q; by a goto to label l: what J says of l. -/
def jumpN (J : Nat → Act → World → Prop) (Q : Exit → Act → World → Prop) : Exit → Act → World → Prop
  | .goto l, a, w => J l a w
  | e, a, w => Q e a w

theorem wp_scope_many {P : Program} {a : Act} {w : World} {Q : Exit → Act → World → Prop} {c : Code} (J : Nat → Act → World → Prop) (μ : Nat → Act → World → Nat) (rest : Nat → Code)
    (hf : ∀ l a w, J l a w → findLabel c l = some (rest l)) (first : c.wp P (jumpN J Q) a w)
    (pass : ∀ l a w, J l a w → (rest l).wp P (jumpN (fun l' a' w' => J l' a' w' ∧ μ l' a' w' < μ l a w) Q) a w) : (Code.scope c).wp P Q a w := by
  intro b k cs
  have key : ∀ n l a w, μ l a w = n → J l a w → ∃ e a' w', Q e a' w' ∧ Arrives P (lone (b.at a (.code (rest l) :: .inScope c :: k)) cs w) b k cs e a' w' := by
    intro n
    induction n using Nat.strongRecOn with
    | _ n ih =>
      intro l a w hn hJ
      obtain ⟨e, a₁, w₁, hq, harr⟩ := pass l a w hJ b (.inScope c :: k) cs
      cases e with
      | normal => exact ⟨.normal, a₁, w₁, hq, Steps.trans harr (.one step_inScope)⟩
      | exit id => exact ⟨.exit id, a₁, w₁, hq, fun k' hk => harr k' (by simp [exitTo, hk])⟩
      | goto l' =>
        obtain ⟨hJ', hlt⟩ := hq
        have hg : gotoIn l' (.inScope c :: k) = some (.code (rest l') :: .inScope c :: k) := by simp [gotoIn, hf l' a₁ w₁ hJ']
        obtain ⟨e₂, a₂, w₂, hq₂, harr₂⟩ := ih _ (by omega) l' a₁ w₁ rfl hJ'
        exact ⟨e₂, a₂, w₂, hq₂, .of_steps (harr _ hg) harr₂⟩
      | ret => exact ⟨_, a₁, w₁, hq, harr⟩
      | panic ch => exact ⟨_, a₁, w₁, hq, harr⟩
      | outgrown => exact ⟨_, a₁, w₁, hq, harr⟩
  obtain ⟨e, a₁, w₁, hq, harr⟩ := first b (.inScope c :: k) cs
  cases e with
  | normal => exact ⟨.normal, a₁, w₁, hq, .head step_scope (Steps.trans harr (.one step_inScope))⟩
  | exit id => exact ⟨.exit id, a₁, w₁, hq, fun k' hk => .head step_scope (harr k' (by simp [exitTo, hk]))⟩
  | goto l' =>
    have hJ' : J l' a₁ w₁ := hq
    have hg : gotoIn l' (.inScope c :: k) = some (.code (rest l') :: .inScope c :: k) := by simp [gotoIn, hf l' a₁ w₁ hJ']
    obtain ⟨e₂, a₂, w₂, hq₂, harr₂⟩ := key _ l' a₁ w₁ rfl hJ'
    exact ⟨e₂, a₂, w₂, hq₂, .of_steps (.head step_scope (harr _ hg)) harr₂⟩
  | ret => exact ⟨_, a₁, w₁, hq, .of_steps (.one step_scope) harr⟩
  | panic ch => exact ⟨_, a₁, w₁, hq, .of_steps (.one step_scope) harr⟩
  | outgrown => exact ⟨_, a₁, w₁, hq, .of_steps (.one step_scope) harr⟩

/-- What holds at a jump to one of three labels. -/
def jump3 (J0 J1 J2 : Act → World → Prop) : Nat → Act → World → Prop
  | 0 => J0
  | 1 => J1
  | 2 => J2
  | _ => fun _ _ => False

theorem wp_scope_three {P : Program} {a : Act} {w : World} {Q : Exit → Act → World → Prop} {c r0 r1 r2 : Code} (J0 J1 J2 : Act → World → Prop) (μ0 μ1 μ2 : Act → World → Nat)
    (hf0 : findLabel c 0 = some r0) (hf1 : findLabel c 1 = some r1) (hf2 : findLabel c 2 = some r2)
    (first : c.wp P (jumpN (jump3 J0 J1 J2) Q) a w)
    (pass0 : ∀ a w, J0 a w → r0.wp P (jumpN (jump3 (fun a' w' => J0 a' w' ∧ μ0 a' w' < μ0 a w) (fun a' w' => J1 a' w' ∧ μ1 a' w' < μ0 a w) (fun a' w' => J2 a' w' ∧ μ2 a' w' < μ0 a w)) Q) a w)
    (pass1 : ∀ a w, J1 a w → r1.wp P (jumpN (jump3 (fun a' w' => J0 a' w' ∧ μ0 a' w' < μ1 a w) (fun a' w' => J1 a' w' ∧ μ1 a' w' < μ1 a w) (fun a' w' => J2 a' w' ∧ μ2 a' w' < μ1 a w)) Q) a w)
    (pass2 : ∀ a w, J2 a w → r2.wp P (jumpN (jump3 (fun a' w' => J0 a' w' ∧ μ0 a' w' < μ2 a w) (fun a' w' => J1 a' w' ∧ μ1 a' w' < μ2 a w) (fun a' w' => J2 a' w' ∧ μ2 a' w' < μ2 a w)) Q) a w) :
    (Code.scope c).wp P Q a w := by
  have hj : ∀ (M : Nat), (fun l' a' w' => jump3 J0 J1 J2 l' a' w' ∧ (match l' with | 0 => μ0 | 1 => μ1 | _ => μ2) a' w' < M) = jump3 (fun a' w' => J0 a' w' ∧ μ0 a' w' < M) (fun a' w' => J1 a' w' ∧ μ1 a' w' < M) (fun a' w' => J2 a' w' ∧ μ2 a' w' < M) := by
    intro M
    funext l' a' w'
    match l' with
    | 0 => rfl
    | 1 => rfl
    | 2 => rfl
    | n + 3 => simp [jump3]
  refine wp_scope_many (jump3 J0 J1 J2) (fun l' => match l' with | 0 => μ0 | 1 => μ1 | _ => μ2) (fun l' => match l' with | 0 => r0 | 1 => r1 | _ => r2) ?_ first ?_
  · intro l a w h
    match l, h with
    | 0, _ => exact hf0
    | 1, _ => exact hf1
    | 2, _ => exact hf2
  · intro l a w h
    match l, h with
    | 0, h => rw [hj]; exact pass0 a w h
    | 1, h => rw [hj]; exact pass1 a w h
    | 2, h => rw [hj]; exact pass2 a w h
end Go.Proofs.YtkanhjafchiikaaDoor.Scope

/- Laws on rows of bytes that a call makes: made, copied into, read as a text. -/
namespace Go.Proofs.YtkanhjafchiikaaDoor.Mem
open Go.RowKit

/-- Block g is a row of these cells. -/
def HasRow (W : World) (g : Nat) (cs : List Value) (e : TypeId) : Prop := W.heap[g]? = some (.cells cs.toArray e (0, 0))

theorem bstep {w a b : World} (h : Below w.heap.size w a) (k : Below a.heap.size a b) : Below w.heap.size w b := h.trans (k.mono h.size)
theorem balloc {w a : World} (h : Below w.heap.size w a) (o : Obj) : Below w.heap.size w (a.alloc o) := h.alloc h.size o

theorem bytes_data (s : ByteArray) : s.data.toList.length = s.size := rfl

theorem make_bytes {P : Program} (t e : TypeId) (ht : P.underlying t = some (.slice e)) (hinfo : (P.info? e).map (fun i => (i.zero, i.size, i.bytes)) = some (some (.int .u8 0), 1, 1))
    (n : Nat) (hn : n ≤ 1000000000) (w : World) :
    ∃ W1, (Instr.makeSlice t (.int .i64 (n : Int)) (.int .i64 (n : Int))).run P w = .ok (.slice (some ⟨w.heap.size, 0, none⟩) n n) W1 ∧ HasRow W1 w.heap.size (List.replicate n (.int .u8 0)) e ∧ Below w.heap.size w W1 ∧ W1.heap.size = w.heap.size + 1 := by
  refine ⟨_, run_make_row' (P := P) t e (.int .u8 0) 1 ht hinfo rfl .i64 .i64 n (by omega) (by omega) w, ?_, (Below.refl _ _).alloc (Nat.le_refl _) _, by simp⟩
  unfold HasRow
  rw [← toList_madeCells_one]
  show (w.heap.push _)[w.heap.size]? = _
  simp

theorem copy_str {P : Program} (dT sT ty elem : TypeId) (hu : P.underlying dT = some (.slice elem)) (hinfo : (P.info? elem).map (fun i => (i.zero, i.size, i.bytes)) = some (some (.int .u8 0), 1, 1))
    (W : World) (g o dLen dCap : Nat) (s : ByteArray) (cur : List Value) (hg : HasRow W g cur elem) (hle : s.size ≤ dLen) (hfit : o + s.size ≤ cur.length) :
    ∃ W', (Builtin.copy_ #[dT, sT] ty #[.slice (some ⟨g, o, none⟩) dLen dCap, .string s]).run P W = .ok (goInt s.size) W' ∧ HasRow W' g (cur.take o ++ Lib.byteCells s.data.toList ++ cur.drop (o + s.size)) elem ∧ Below g W W' ∧ W'.heap.size = W.heap.size := by
  have hs : (P.info? elem).map (·.size) = some 1 := by
    obtain ⟨i, hi, hzz⟩ := Option.map_eq_some_iff.1 hinfo
    simp only [Prod.mk.injEq] at hzz
    simp [hi, hzz.2.1]
  refine ⟨_, Lib.run_copy_row_string W dT sT ty elem g o dLen dCap s cur.toArray elem hu hs hg hle (by simpa using hfit), ?_, below_setRow (Below.refl _ _) (Nat.le_refl _) _, by simp [World.setRow]⟩
  have := setRow_heap W g _ (List.take o cur.toArray.toList ++ Lib.byteCells s.data.toList ++ List.drop (o + s.size) cur.toArray.toList).toArray elem _ hg
  unfold HasRow
  simpa using this

theorem copy_empty {P : Program} (dT sT ty elem : TypeId) (hu : P.underlying dT = some (.slice elem)) (hinfo : (P.info? elem).map (fun i => (i.zero, i.size, i.bytes)) = some (some (.int .u8 0), 1, 1))
    (W : World) (d : Option Addr) (dLen dCap : Nat) :
    (Builtin.copy_ #[dT, sT] ty #[.slice d dLen dCap, .string ByteArray.empty]).run P W = .ok (goInt 0) W := by
  obtain ⟨i, hi, hzz⟩ := Option.map_eq_some_iff.1 hinfo
  exact Lib.run_copy_empty_string W dT sT ty elem d dLen dCap ByteArray.empty hu (by simp [hi]) rfl

theorem cell_of_row {W : World} {g : Nat} {cs : List Value} {e : TypeId} (h : HasRow W g cs e) (j : Nat) : W.cell? ⟨g, j, none⟩ = cs[j]? := by
  unfold HasRow at h
  unfold World.cell?
  rw [h]
  simp

theorem frozen_of_row {W : World} {g : Nat} {cs : List Value} {e : TypeId} (h : HasRow W g cs e) (j : Nat) : W.frozen? ⟨g, j, none⟩ = false := by
  unfold HasRow at h
  unfold World.frozen?
  rw [h]
  simp

theorem row_set {W : World} {g : Nat} {cs : List Value} {e : TypeId} (h : HasRow W g cs e) (k : Nat) (v : Value) : HasRow (W.setCell ⟨g, k, none⟩ v) g (cs.set k v) e := by
  unfold HasRow at h ⊢
  simp only [World.setCell, Array.getElem?_modify, h]
  simp

/-- 'string(b)', b the first cells of a row of bytes. -/
theorem text_of_row {P : Program} (src dst e : TypeId) (hs : P.underlying src = some (.slice e)) (he : P.underlying e = some (.int .u8)) (hd : P.underlying dst = some .string)
    (W : World) (g cap n : Nat) (l : List UInt8) (rest : List Value) (hn : l.length = n) {T : TypeId} (hg : HasRow W g (Lib.byteCells l ++ rest) T) :
    (convert src dst (.slice (some ⟨g, 0, none⟩) n cap)).run P W = .ok (.string ⟨l.toArray⟩) W := by
  subst hn
  refine run_convert_bytes_back W src dst e _ cap l hs he hd ?_
  intro j hj
  have := cell_of_row hg j
  have ha : (⟨g, 0, none⟩ : Addr).add j = ⟨g, j, none⟩ := by unfold Addr.add; split <;> simp_all
  rw [ha, this]
  simp [Lib.byteCells, List.getElem?_append, hj]

theorem append_eq (a b : ByteArray) : (⟨(a.data.toList ++ b.data.toList).toArray⟩ : ByteArray) = a ++ b := by
  apply ByteArray.ext
  simp
end Go.Proofs.YtkanhjafchiikaaDoor.Mem

/- The texts that mark a place, as a function of their number. -/
namespace Go.Proofs.YtkanhjafchiikaaDoor.Mark

/-- The digits of a number ahead of what stands. -/
def digs (k : Nat) (acc : List UInt8) : List UInt8 := if h : k = 0 then acc else digs (k / 10) (UInt8.ofNat (48 + k % 10) :: acc)
termination_by k
decreasing_by omega

theorem digs_zero (acc : List UInt8) : digs 0 acc = acc := by rw [digs]; simp
theorem digs_pos {k : Nat} (h : 0 < k) (acc : List UInt8) : digs k acc = digs (k / 10) (UInt8.ofNat (48 + k % 10) :: acc) := by rw [digs]; simp; intro h2; omega

def markB (k : Nat) : ByteArray := if k = 0 then ⟨#[109, 48]⟩ else ⟨(109 :: digs k []).toArray⟩
def marks (k n : Nat) : List ByteArray := (List.range n).map fun i => markB (k + i)
theorem length_marks (k n : Nat) : (marks k n).length = n := by simp [marks]
end Go.Proofs.YtkanhjafchiikaaDoor.Mark

/- Whole arrays out of and into a row. -/
namespace Go.Proofs.YtkanhjafchiikaaDoor.Mem
open Go.RowKit

theorem load_row {P : Program} {W : World} {g : Nat} {cs : List Value} {T : TypeId} {n : Nat} {e : TypeId} (h : HasRow W g cs T) (hu : P.underlying T = some (.array n e)) (hi : (P.info? T).map (·.size) = some cs.length) :
    (loadVar T ⟨g, 0, none⟩).run P W = .ok (.agg cs.toArray) W :=
  run_loadVar_row _ _ T T cs.toArray (0, 0) _ h hu rfl (by simpa using hi)
theorem loadAt_row {P : Program} {W : World} {g : Nat} {cs : List Value} {T : TypeId} {n : Nat} {e : TypeId} (h : HasRow W g cs T) (hu : P.underlying T = some (.array n e)) (hi : (P.info? T).map (·.size) = some cs.length) :
    (Instr.loadAt T (.pointer (some ⟨g, 0, none⟩))).run P W = .ok (.agg cs.toArray) W := by
  simp only [Instr.loadAt, Instr.sureAddr, Sem.run_bind, Sem.run_pure, Result.andThen]
  exact load_row h hu hi
theorem store_row {P : Program} {W : World} {g : Nat} {cs cs' : List Value} {T : TypeId} (h : HasRow W g cs T) (hi : (P.info? T).map (·.size) = some cs'.length) (ho : cs.length = cs'.length) (h1 : ∀ v ∈ cs', v.oneCell' = true) :
    ∃ W', (Instr.storeAt T (.pointer (some ⟨g, 0, none⟩)) (.agg cs'.toArray)).run P W = .ok () W' ∧ HasRow W' g cs' T ∧ (∀ k, k ≠ g → W'.heap[k]? = W.heap[k]?) ∧ (∀ B w, B ≤ g → Below B w W → Below B w W') ∧ W'.heap.size = W.heap.size := by
  have hs := run_storeVar_row (P := P) W g T T cs.toArray cs'.toArray h (by simpa using hi) (by simpa using ho) (Array.all_eq_true_iff_forall_mem.2 (fun v hv => h1 v (by simpa using hv)))
  refine ⟨W.setRow g cs'.toArray, ?_, ?_, ?_, ?_, by simp [World.setRow]⟩
  · simp only [Instr.storeAt, Instr.sureAddr, Sem.run_bind, Sem.run_pure, Result.andThen]
    exact hs
  · exact setRow_heap W g _ cs'.toArray T _ h
  · intro k hk
    simp [World.setRow, Array.getElem?_modify, Ne.symm hk]
  · intro B w hB hb
    exact below_setRow hb hB _

theorem row_load_wp {P : Program} {ops : Array Oper} {rest : List Oper} {op : Oper} {a : Act} {w : World} {Q : Exit → Act → World → Prop} (hgd : op.guard = none) (ty : TypeId) (x : Operand) (ho : op.op = .load ty x)
    (g : Nat) (hx : a.eval x = .pointer (some ⟨g, 0, none⟩)) {cs : List Value} {n : Nat} {e : TypeId} (hr : HasRow w g cs ty) (hu : P.underlying ty = some (.array n e)) (hi : (P.info? ty).map (·.size) = some cs.length)
    (h : wpList P ops Q rest (a.put op.dst (.agg cs.toArray)) w) : wpList P ops Q (op :: rest) a w :=
  wpList_plain hgd fun _ hK => by
    unfold Oper.wp execOp
    simp only [ho, hx, Instr.loadAt, Instr.sureAddr, Sem.run_bind, Sem.run_pure, Result.andThen_ok, load_row hr hu hi]
    exact hK _ _ h
theorem row_store_wp {P : Program} {ops : Array Oper} {rest : List Oper} {op : Oper} {a : Act} {w : World} {Q : Exit → Act → World → Prop} (hgd : op.guard = none) (ty : TypeId) (x y : Operand) (ho : op.op = .store ty x y)
    (g : Nat) (hx : a.eval x = .pointer (some ⟨g, 0, none⟩)) {cs cs' : List Value} (hy : a.eval y = .agg cs'.toArray) (hr : HasRow w g cs ty) (hi : (P.info? ty).map (·.size) = some cs'.length) (ho2 : cs.length = cs'.length) (h1 : ∀ v ∈ cs', v.oneCell' = true)
    (h : ∀ W', HasRow W' g cs' ty → (∀ k, k ≠ g → W'.heap[k]? = w.heap[k]?) → (∀ B u, B ≤ g → Below B u w → Below B u W') → W'.heap.size = w.heap.size → wpList P ops Q rest (a.put op.dst undef) W') : wpList P ops Q (op :: rest) a w := by
  obtain ⟨W', hst, h2, h3, h4, h5⟩ := store_row (P := P) hr hi ho2 h1
  refine wpList_plain hgd fun _ hK => ?_
  unfold Oper.wp execOp
  simp only [ho, hx, hy, hst, Sem.run_bind, Result.andThen_ok]
  exact hK _ _ (h W' h2 h3 h4 h5)

/-- A result that lies in a variable. -/
theorem results_cell {P : Program} {fn : Func} {tmps : Array Value} {w : World} {v : Value} {a : Nat} {t : TypeId} {p : Addr} (hf : fn.results = #[.cell a t]) (ha : tmps.getD a undef = .pointer (some p)) (hl : (loadVar t p).run P w = .ok v w) :
    (results fn tmps).run P w = .ok v w := by
  unfold results
  rw [hf]
  have ha2 : tmps[a]?.getD undef = .pointer (some p) := by simpa [Array.getD_eq_getD_getElem?] using ha
  simp [ha2, hl, asAddr]
end Go.Proofs.YtkanhjafchiikaaDoor.Mem

/- Rows behind new blocks, stores elsewhere, draws and calls. -/
namespace Go.Proofs.YtkanhjafchiikaaDoor.Sha
open Go.RowKit Go.Proofs.YtkanhjafchiikaaDoor.Mem

theorem bel_cell {w wr : World} (h : Below w.heap.size w wr) {p : Addr} {v : Value} (hc : w.cell? p = some v) : wr.cell? p = some v := by
  rw [h.cell (World.block_lt_of_cell? w p hc)]; exact hc

theorem bel_drewN {B : Nat} {a w : World} (h : Below B a w) (n : Nat) : Below B a (w.drewN n) := ⟨h.os, h.tape, h.output, h.size, h.block⟩

theorem row_new (w : World) (cs : List Value) (e : TypeId) : HasRow (w.alloc (.cells cs.toArray e)) w.heap.size cs e := by
  show (w.heap.push _)[w.heap.size]? = _
  simp
theorem row_new_at (w : World) (cs : List Value) (e : TypeId) (g : Nat) (hg : g = w.heap.size) : HasRow (w.alloc (.cells cs.toArray e)) g cs e := by subst hg; exact row_new w cs e
theorem row_alloc {w : World} {g : Nat} {cs : List Value} {e : TypeId} (h : HasRow w g cs e) (o : Obj) : HasRow (w.alloc o) g cs e := by
  unfold HasRow at h ⊢
  obtain ⟨hl, _⟩ := Array.getElem?_eq_some_iff.1 h
  rw [Below.heap_alloc w o g hl]
  exact h
theorem row_other {w : World} {g : Nat} {cs : List Value} {e : TypeId} (h : HasRow w g cs e) (a : Addr) (v : Value) (hg : g ≠ a.block) : HasRow (w.setCell a v) g cs e := by
  unfold HasRow at h ⊢
  rw [Below.heap_setCell w a v g hg]
  exact h
theorem row_drew {w : World} {g : Nat} {cs : List Value} {e : TypeId} (h : HasRow w g cs e) : HasRow w.drew g cs e := h
theorem row_drewN {w : World} {g : Nat} {cs : List Value} {e : TypeId} (h : HasRow w g cs e) (n : Nat) : HasRow (w.drewN n) g cs e := h

theorem row_far {W W' : World} {g k : Nat} {cs : List Value} {e : TypeId} (h : HasRow W k cs e) (hoth : ∀ k, k ≠ g → W'.heap[k]? = W.heap[k]?) (hk : k ≠ g) : HasRow W' k cs e := by
  unfold HasRow at h ⊢
  rw [hoth k hk]; exact h
theorem row_below {W W' : World} {B k : Nat} {cs : List Value} {e : TypeId} (h : HasRow W k cs e) (hb : Below B W W') (hk : k < B) : HasRow W' k cs e := by
  unfold HasRow at h ⊢
  rw [hb.block k hk]; exact h
end Go.Proofs.YtkanhjafchiikaaDoor.Sha

/- Laws on a slice of bytes that the call itself appends to. -/
namespace Go.Proofs.YtkanhjafchiikaaDoor.Mem
open Go.RowKit

/-- The slice v is of the call's own memory and holds the bytes l. -/
def OwnsB (w : World) (base : Nat) (e : TypeId) (v : Value) (l : List UInt8) : Prop := w.ownsRow base e 1 v l.length (Lib.byteCells l)

theorem length_byteCells (l : List UInt8) : (Lib.byteCells l).length = l.length := by simp [Lib.byteCells]

theorem own_empty (w : World) (base : Nat) (e : TypeId) (h : base ≤ w.heap.size) : OwnsB (w.alloc (.cells #[] e)) base e (.slice (some ⟨w.heap.size, 0, none⟩) 0 0) [] :=
  w.ownsRow_made #[] 0 h (by unfold maxLen; omega) (by simp)

/-- Behind an append of one byte. -/
theorem own_step {w wr w1 : World} {base : Nat} {e : TypeId} {v v' : Value} {l : List UInt8} {b : UInt8} {n : Int} {o : Obj} (hown : OwnsB wr base e v l) (hbel : Below base w wr) (hB : base ≤ wr.heap.size)
    (hn : n = (b.toNat : Int)) (h1 : w1.ownsRow base e 1 v' (l.length + 1) (Lib.byteCells l ++ [.int .u8 n])) (hg : (wr.alloc o).grownBy w1 v.ownBlock) : OwnsB w1 base e v' (l ++ [b]) ∧ Below base w w1 := by
  refine ⟨?_, ?_⟩
  · unfold OwnsB
    subst hn
    simpa [Lib.byteCells] using h1
  · refine (hbel.alloc hB o).grown hg (by simp; omega) (fun k hk => ?_)
    exact (World.ownsRow.lt hown k hk).1

/-- 'string(b)' of such a slice that is not empty. -/
theorem own_text {P : Program} (src dst e : TypeId) (hs : P.underlying src = some (.slice e)) (he : P.underlying e = some (.int .u8)) (hd : P.underlying dst = some .string)
    {W : World} {base : Nat} {v : Value} {l : List UInt8} (hl : l ≠ []) (h : OwnsB W base e v l) : (convert src dst v).run P W = .ok (.string ⟨l.toArray⟩) W := by
  have hc := fun g hg => World.ownsRow.cells h (g := g) hg
  obtain ⟨_, h2⟩ := h
  rcases h2 with ⟨_, h0⟩ | ⟨g, cap, cur, rfl, _⟩
  · exact absurd (List.eq_nil_of_length_eq_zero h0) hl
  · refine run_convert_bytes_back W src dst e _ cap l hs he hd ?_
    intro j hj
    refine hc g rfl j _ ?_
    simp [Lib.byteCells, hj]
end Go.Proofs.YtkanhjafchiikaaDoor.Mem

/- The bytes of a number, as a function of numbers. -/
namespace Go.Proofs.YtkanhjafchiikaaDoor.PutNum
open Go.RowKit

def foldN (n : Int) : Nat := if n < 0 then (-2 * n - 1).toNat else (2 * n).toNat
def putF : Nat → Nat → List UInt8
  | 0, u => [UInt8.ofNat u]
  | f + 1, u => if 128 ≤ u then UInt8.ofNat (u % 128 + 128) :: putF f (u / 128) else [UInt8.ofNat u]
/-- The bytes of a number. -/
def numL (n : Int) : List UInt8 := putF 9 (foldN n)

theorem foldN_lt (n : Int) (h1 : -9223372036854775808 ≤ n) (h2 : n ≤ 9223372036854775807) : foldN n < 18446744073709551616 := by
  unfold foldN; split <;> omega

theorem fold_neg {n : Int} (h : n < 0) : (foldN n : Int) = 2 * -(n + 1) + 1 := by unfold foldN; rw [if_pos h]; omega
theorem fold_pos {n : Int} (h : ¬ n < 0) : (foldN n : Int) = 2 * n := by unfold foldN; rw [if_neg h]; omega

theorem max64 : IntKind.u64.max = 18446744073709551615 := by simp [IntKind.max, IntKind.bits, IntKind.signed]

theorem xor_ones (a : Nat) (h : a < 18446744073709551616) : 18446744073709551615 ^^^ a = 18446744073709551615 - a := by
  have h1 : (BitVec.allOnes 64 ^^^ BitVec.ofNat 64 a).toNat = 18446744073709551615 ^^^ a := by
    rw [BitVec.toNat_xor, BitVec.toNat_allOnes, BitVec.toNat_ofNat, Nat.mod_eq_of_lt (by simpa using h)]
  rw [← h1, BitVec.allOnes_xor, BitVec.toNat_not, BitVec.toNat_ofNat, Nat.mod_eq_of_lt (by simpa using h)]

theorem fold_bits {n : Int} (h1 : -9223372036854775808 ≤ n) (h : n < 0) : bits .xor .u64 IntKind.u64.max (IntKind.u64.wrap (IntKind.u64.wrap n * 2)) = (foldN n : Int) := by
  have e1 : IntKind.u64.wrap n = n + 18446744073709551616 := by rw [IntKind.wrap_u64]; omega
  have e2 : IntKind.u64.wrap ((n + 18446744073709551616) * 2) = ((2 * n + 18446744073709551616).toNat : Int) := by rw [IntKind.wrap_u64]; omega
  rw [e1, e2, max64, fold_neg h]
  have := u64_xor_nat 18446744073709551615 (2 * n + 18446744073709551616).toNat (by decide) (by omega)
  rw [xor_ones _ (by omega)] at this
  refine Eq.trans this ?_
  omega

theorem putF_small {u : Nat} (h : u < 128) : ∀ f, putF f u = [UInt8.ofNat u]
  | 0 => rfl
  | f + 1 => by unfold putF; rw [if_neg (by omega)]

theorem putF_great {f u : Nat} (h : 128 ≤ u) : putF (f + 1) u = UInt8.ofNat (u % 128 + 128) :: putF f (u / 128) := by
  rw [putF, if_pos h]

theorem toNat_cont (u : Nat) : ((UInt8.ofNat (u % 128 + 128)).toNat : Int) = (u : Int) % 128 + 128 := by
  simp; omega

theorem toNat_last {u : Nat} (h : u < 128) : ((UInt8.ofNat u).toNat : Int) = (u : Int) := by
  simp; omega

/-- What holds at a round's head: f rounds at most are left, 'pre' has been laid down. -/
def Inv (u0 f u : Nat) (pre : List UInt8) : Prop := pre.length + f = 9 ∧ u < 128 ^ (f + 1) ∧ pre ++ putF f u = putF 9 u0

theorem inv_start {u : Nat} (h : u < 18446744073709551616) : Inv u 9 u [] := ⟨rfl, Nat.lt_of_lt_of_le h (by decide), rfl⟩

theorem inv_step {u0 f u : Nat} {pre : List UInt8} (h : Inv u0 f u pre) (hu : 128 ≤ u) : ∃ g, f = g + 1 ∧ Inv u0 g (u / 128) (pre ++ [UInt8.ofNat (u % 128 + 128)]) := by
  obtain ⟨h1, h2, h3⟩ := h
  cases f with
  | zero => omega
  | succ g =>
    refine ⟨g, rfl, by simp; omega, ?_, ?_⟩
    · rw [Nat.pow_succ] at h2
      exact Nat.div_lt_of_lt_mul (by rw [Nat.mul_comm]; exact h2)
    · rw [putF_great hu] at h3
      simpa using h3

theorem inv_end {u0 f u : Nat} {pre : List UInt8} (h : Inv u0 f u pre) (hu : u < 128) : pre ++ [UInt8.ofNat u] = putF 9 u0 := by
  have := h.2.2
  rwa [putF_small hu] at this

theorem inv_le {u0 f u : Nat} {pre : List UInt8} (h : Inv u0 f u pre) : pre.length ≤ 9 := by have := h.1; omega
theorem length_putF : ∀ f u, 1 ≤ (putF f u).length ∧ (putF f u).length ≤ f + 1
  | 0, u => by simp [putF]
  | f + 1, u => by
    have := length_putF f (u / 128)
    unfold putF; split <;> simp <;> omega
theorem length_numL (n : Int) : 1 ≤ (numL n).length ∧ (numL n).length ≤ 10 := length_putF 9 _
end Go.Proofs.YtkanhjafchiikaaDoor.PutNum

/- The CRC of chapter 2 as a function of numbers, and its bounds. -/
namespace Go.Proofs.YtkanhjafchiikaaDoor.Crc
open Go.RowKit

def bitS (x : Nat) : Nat := if x % 2 = 1 then (x / 2) ^^^ 3988292384 else x / 2
def itS : Nat → Nat → Nat
  | 0, x => x
  | k + 1, x => bitS (itS k x)
def byteS (x c : Nat) : Nat := itS 8 (x ^^^ c)
def crcTo (s : ByteArray) (x : Nat) : Nat → Nat
  | 0 => x
  | k + 1 => byteS (crcTo s x k) (s[k]?.getD 0).toNat
def crcOf (x : Nat) (s : ByteArray) : Nat := crcTo s (x ^^^ 4294967295) s.size ^^^ 4294967295

theorem xor_lt {a b : Nat} (ha : a < 4294967296) (hb : b < 4294967296) : a ^^^ b < 4294967296 :=
  Nat.xor_lt_two_pow (n := 32) ha hb

theorem bitS_lt {x : Nat} (h : x < 4294967296) : bitS x < 4294967296 := by
  unfold bitS
  split
  · exact xor_lt (by omega) (by omega)
  · omega

theorem itS_lt {x : Nat} (h : x < 4294967296) : ∀ k, itS k x < 4294967296
  | 0 => h
  | k + 1 => bitS_lt (itS_lt h k)

theorem byteS_lt {x c : Nat} (h : x < 4294967296) (hc : c < 4294967296) : byteS x c < 4294967296 := itS_lt (xor_lt h hc) 8

theorem byte_lt (c : UInt8) : c.toNat < 256 := c.toNat_lt

theorem crcTo_lt (s : ByteArray) {x : Nat} (h : x < 4294967296) : ∀ k, crcTo s x k < 4294967296
  | 0 => h
  | k + 1 => byteS_lt (crcTo_lt s h k) (by have := byte_lt (s[k]?.getD 0); omega)

theorem crcOf_lt {x : Nat} (h : x < 4294967296) (s : ByteArray) : crcOf x s < 4294967296 :=
  xor_lt (crcTo_lt s (xor_lt h (by omega)) _) (by omega)

theorem xor32 {a b : Nat} (ha : a < 4294967296) (hb : b < 4294967296) : bits .xor .u32 (a : Int) (b : Int) = ((a ^^^ b : Nat) : Int) := u32_xor_nat a b ha hb

theorem xorM {a : Nat} (ha : a < 4294967296) : bits .xor .u32 (a : Int) 4294967295 = ((a ^^^ 4294967295 : Nat) : Int) :=
  u32_xor_nat a 4294967295 ha (by decide)

theorem xorM' {a : Nat} (ha : a < 4294967296) : bits .xor .u32 4294967295 (a : Int) = ((a ^^^ 4294967295 : Nat) : Int) := by
  rw [Nat.xor_comm]; exact u32_xor_nat 4294967295 a (by decide) ha

theorem and1 {x : Nat} (h : x < 4294967296) : bits .and .u32 (x : Int) 1 = ((x % 2 : Nat) : Int) := by
  have := u32_and_nat x 1 h (by omega)
  rw [Nat.and_one_is_mod] at this
  exact this

theorem poly {x : Nat} (h : x < 4294967296) : bits .xor .u32 ((x : Int) / 2) 3988292384 = ((x / 2 ^^^ 3988292384 : Nat) : Int) := by
  have := u32_xor_nat (x / 2) 3988292384 (by omega) (by omega)
  rw [← this]
  simp

theorem bit_yes {x : Nat} (h : x < 4294967296) (e : x % 2 = 1) : bits .xor .u32 ((x : Int) / 2) 3988292384 = (bitS x : Int) := by
  rw [poly h, bitS, if_pos e]

theorem bit_no {x : Nat} (e : ¬ x % 2 = 1) : ((x : Int) / 2) = (bitS x : Int) := by
  rw [bitS, if_neg e]; simp

theorem test_yes {x : Nat} (h : x < 4294967296) (e : x % 2 = 1) : (bits .and .u32 (x : Int) 1 == 1) = true := by
  rw [and1 h, e]; rfl

theorem test_no {x : Nat} (h : x < 4294967296) (e : ¬ x % 2 = 1) : (bits .and .u32 (x : Int) 1 == 1) = false := by
  rw [and1 h, beq_eq_false_iff_ne]; omega
end Go.Proofs.YtkanhjafchiikaaDoor.Crc
