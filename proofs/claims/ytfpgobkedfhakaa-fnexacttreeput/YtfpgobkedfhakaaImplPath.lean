/- What the program's look at a path answers. -/
import Derived.Test.YtfpgobkedfhakaaSpecPath
import Derived.Laws.RangeString
namespace Go.Proofs.Ytfpgobkedfhakaa.Tre
open Go.RowKit Go.Proofs.Ytfpgobkedfhakaa.Mem Go.Proofs.Ytfpgobkedfhakaa.Gf Go.Proofs.Ytfpgobkedfhakaa.Harn Go.Proofs.Ytfpgobkedfhakaa.Mark

/-- What is no ASCII byte decodes to a rune that is none either. -/
theorem decode_wide (s : ByteArray) (pos : Nat) (h : pos < s.size) (ha : 128 ≤ (s[pos]'h).toNat) : 128 ≤ (Utf8.decode s pos).1 ∧ (Utf8.decode s pos).1 ≤ 1114111 := by
  have e : s.get! (pos + 0) = s[pos]'h := by
    show s.get! pos = _
    simp [ByteArray.get!, getElem!_pos, h]
    rfl
  have h1 : ¬ (s[pos]'h).toNat < 128 := by omega
  have hb : (s[pos]'h).toNat < 256 := UInt8.toNat_lt _
  have m1 := (s.get! (pos + 1)).toNat_lt
  have m2 := (s.get! (pos + 2)).toNat_lt
  have m3 := (s.get! (pos + 3)).toNat_lt
  simp only [Utf8.decode, e, if_neg h1]
  generalize (s[pos]'h).toNat = b at *
  generalize (s.get! (pos + 1)).toNat = b1 at *
  generalize (s.get! (pos + 2)).toNat = b2 at *
  generalize (s.get! (pos + 3)).toNat = b3 at *
  split
  · split
    · simp only; omega
    · simp [Utf8.runeError]
  · split
    · split
      · rename_i hv; simp [Utf8.valid] at hv; simp only; omega
      · simp [Utf8.runeError]
    · split
      · split
        · rename_i hv; simp [Utf8.valid] at hv; simp only; omega
        · simp [Utf8.runeError]
      · simp [Utf8.runeError]
theorem run_next_wide {P : Program} (w : World) (s : ByteArray) (pos : Nat) (ty : TypeId) (h : pos < s.size) (ha : 128 ≤ (s[pos]'h).toNat) :
    ∃ r k : Nat, 128 ≤ r ∧ r ≤ 1114111 ∧ (Instr.next (.pointer (some ⟨w.heap.size, 0, none⟩)) true ty).run P (w.iter s pos) =
      .ok (.tuple #[.bool true, .int .i64 pos, .int .i32 (r : Nat)]) (w.iter s (pos + k)) := by
  obtain ⟨h1, h2⟩ := decode_wide s pos h ha
  refine ⟨(Utf8.decode s pos).1, (Utf8.decode s pos).2, h1, h2, ?_⟩
  simp only [Instr.next, getObj, setObj, Sem.run_bind, Sem.run, World.iter_heap, Result.andThen, h, if_true, World.iter_set]
  simp [goInt]

theorem ret_b {a b : Bool} (h : a = b) : Ending.returned (.bool a) = .returned (.bool b) := by rw [h]
def OkR (r : Int) : Bool := (decide (97 ≤ r) && decide (r ≤ 122)) || (decide (48 ≤ r) && decide (r ≤ 57)) || decide (r = 45) || decide (r = 46)
set_option maxHeartbeats 1000000 in
theorem isRune_any (r : Int) (w : World) : Calls Try.prog 107 #[.int .i32 r] w fun e w' => e = .returned (.bool (OkR r)) ∧ w' = w := by
  go_enter Try.func107, Try.ntmps107
  go_wp2
  all_goals (try simp only [Bool.not_eq_false', Bool.not_eq_true', beq_eq_false_iff_ne, decide_eq_true_eq, beq_iff_eq] at *)
  all_goals go_ret
  all_goals (refine ⟨ret_b ?_, rfl⟩; rw [Bool.eq_iff_iff]; simp [OkR] <;> omega)
set_option maxHeartbeats 1000000 in
theorem partRight_any (x : ByteArray) (w : World) : Calls Try.prog 106 #[.string x] w fun e w' => e = .returned (.bool (named x)) ∧ w' = w := by
  go_enter Try.func106, Try.ntmps106
  go_wp2
  all_goals go_ret
  all_goals (refine ⟨ret_b ?_, rfl⟩; unfold named; simp_all)
theorem okR_toNat (y : UInt8) : OkR (y.toNat : Int) = okC y := by
  rw [Bool.eq_iff_iff, okI]; unfold OkR OkI; simp; omega
theorem okR_wide {r : Nat} (h : 128 ≤ r) : OkR (r : Int) = false := by
  unfold OkR; simp; omega

/-- Where the iterator in block g stands. -/
def itPos (w : World) (g : Nat) : Nat := match w.heap[g]? with
  | some (.stringIter _ p) => p
  | _ => 0
theorem itPos_iter (w : World) (s : ByteArray) (k : Nat) : itPos (w.iter s k) w.heap.size = k := by unfold itPos; rw [World.iter_heap]
theorem iter_bel (w : World) (s : ByteArray) (k : Nat) : Below w.heap.size w (w.iter s k) := (Below.refl _ _).alloc (Nat.le_refl _) _
theorem iter_size (w : World) (s : ByteArray) (k : Nat) : (w.iter s k).heap.size = w.heap.size + 1 := by simp [World.iter]

set_option maxRecDepth 100000 in
set_option maxHeartbeats 2000000 in
theorem implPath_any (t : ByteArray) (w : World) :
    Calls Try.prog 84 #[.string t] w fun e w' => e = .returned (.bool (pathR t)) ∧ Below w.heap.size w w' := by
  have hus := underS
  by_cases ht : t.size ≤ 20
  · rw [pathR_go t ht]
    generalize hR : pGo t 0 0 1 = R
    have HR : Hid (pGo t 0 0 1 = R) := hR
    clear hR
    have hts : (t.size : Int) ≤ 20 := by omega
    go_enter Try.func84, Try.ntmps84
    go_wp2
    go_loopw [3, 4] (fun n s wr => ∃ (k q m : Nat), k ≤ t.size ∧ q ≤ k ∧ m ≤ k + 1 ∧ n = .int .i64 m ∧ s = .int .i64 q ∧ wr = w.iter t k ∧ Hid (pGo t q k m = R)) (fun _ _ wr => t.size - itPos wr w.heap.size)
    case atStart => exact ⟨0, 0, 1, Nat.zero_le _, Nat.le_refl _, by omega, rfl, rfl, rfl, HR.out⟩
    case round =>
      obtain ⟨k, q, m, hk, hq, hm, rfl, rfl, rfl, HS⟩ := hrel
      rw [itPos_iter]
      by_cases hlt : k < t.size
      · by_cases ha : (t[k]'hlt).toNat < 128
        · have hnx : ∀ ty, (Instr.next (.pointer (some ⟨w.heap.size, 0, none⟩)) true ty).run Try.prog (w.iter t k) = .ok (.tuple #[.bool true, .int .i64 k, .int .i32 ((t[k]'hlt).toNat : Nat)]) (w.iter t (k + 1)) := fun ty => run_next_ascii w t k ty hlt ha
          by_cases hc : (t[k]'hlt) = 47
          · have hcb : ((((t[k]'hlt).toNat : Nat) : Int) == 47) = true := by rw [hc]; rfl
            have HE := HS.out
            rw [pGo_hit hlt hc] at HE
            have HE' := hidT HE
            have HP : Hid (∀ W, Calls Try.prog 106 #[.string (t.extract q k)] W fun e w' => e = .returned (.bool (named (t.extract q k))) ∧ w' = W) := fun W => partRight_any _ W
            generalize (((t[k]'hlt).toNat : Nat) : Int) = y at *
            obtain rfl : y = 47 := by simpa using hcb
            clear HS HE hcb ha
            have p1 : (q : Int) ≤ (k : Int) := by omega
            have p2 : (k : Int) ≤ (t.size : Int) := by omega
            have p3 : (k : Int) < 21 := by omega
            have p4 : (m : Int) ≤ 21 := by omega
            cases hn : named (t.extract q k)
            · rw [hn] at HP HE'
              clear hn
              go_wp2_with (go_at_call 106; refine (HP.out _).mono ?_; rintro e w1 ⟨rfl, rfl⟩)
              go_ret
              exact ⟨by rw [← HE'.out, Bool.false_and]; rfl, iter_bel _ _ _⟩
            · rw [hn, Bool.true_and] at HE'
              rw [hn] at HP
              clear hn
              go_wp2_with (go_at_call 106; refine (HP.out _).mono ?_; rintro e w1 ⟨rfl, rfl⟩)
              exact ⟨⟨k + 1, k + 1, m + 1, by omega, Nat.le_refl _, by omega, by go_num, by go_num, rfl, HE'⟩, by rw [itPos_iter]; omega⟩
          · have hcb : ((((t[k]'hlt).toNat : Nat) : Int) == 47) = false := by
              rw [beq_eq_false_iff_ne]; intro e; apply hc; apply UInt8.toNat_inj.1; exact Int.ofNat.inj e
            have HE := HS.out
            rw [pGo_miss hlt hc] at HE
            have HE' := hidT HE
            have HP : Hid (∀ W, Calls Try.prog 107 #[.int .i32 (((t[k]'hlt).toNat : Nat) : Int)] W fun e w' => e = .returned (.bool (okC (t[k]'hlt))) ∧ w' = W) := fun W => by
              rw [← okR_toNat]; exact isRune_any _ W
            generalize okC (t[k]'hlt) = z at *
            generalize (((t[k]'hlt).toNat : Nat) : Int) = y at *
            clear HS HE ha
            cases z
            · go_wp2_with (go_at_call 107; refine (HP.out _).mono ?_; rintro e w1 ⟨rfl, rfl⟩)
              go_ret
              exact ⟨by rw [← HE'.out, Bool.false_and]; rfl, iter_bel _ _ _⟩
            · rw [Bool.true_and] at HE'
              go_wp2_with (go_at_call 107; refine (HP.out _).mono ?_; rintro e w1 ⟨rfl, rfl⟩)
              exact ⟨⟨k + 1, q, m, by omega, by omega, by omega, rfl, rfl, rfl, HE'⟩, by rw [itPos_iter]; omega⟩
        · obtain ⟨r, kk, hr1, hr2, hnx0⟩ := run_next_wide (P := Try.prog) w t k 3 hlt (by omega)
          have hnx : ∀ ty, (Instr.next (.pointer (some ⟨w.heap.size, 0, none⟩)) true ty).run Try.prog (w.iter t k) = .ok (.tuple #[.bool true, .int .i64 k, .int .i32 (r : Nat)]) (w.iter t (k + kk)) := fun ty => hnx0
          have hcb : (((r : Nat) : Int) == 47) = false := by
            rw [beq_eq_false_iff_ne]; intro e; omega
          have hc : ¬ (t[k]'hlt) = 47 := by
            intro e; rw [e] at ha; exact ha (by decide)
          have HE := HS.out
          have hok : okC (t[k]'hlt) = false := by rw [okI_no]; unfold OkI; omega
          rw [pGo_miss hlt hc, hok] at HE
          have HE' := hidT HE
          have HP : Hid (∀ W, Calls Try.prog 107 #[.int .i32 ((r : Nat) : Int)] W fun e w' => e = .returned (.bool false) ∧ w' = W) := fun W => by
            rw [← okR_wide hr1]; exact isRune_any _ W
          clear HS HE ha hnx0 hc hok
          go_wp2_with (go_at_call 107; refine (HP.out _).mono ?_; rintro e w1 ⟨rfl, rfl⟩)
          go_ret
          exact ⟨by rw [← HE'.out, Bool.false_and]; rfl, iter_bel _ _ _⟩
      · have hnx : ∀ ty, (Instr.next (.pointer (some ⟨w.heap.size, 0, none⟩)) true ty).run Try.prog (w.iter t k) = .ok (.tuple #[.bool false]) (w.iter t k) := fun ty => run_next_end w t k ty hlt
        have HE := HS.out
        rw [pGo_end hlt] at HE
        have HE' := hidT HE
        have p1 : (q : Int) ≤ (t.size : Int) := by omega
        have HP : Hid (∀ W, Calls Try.prog 106 #[.string (t.extract q t.size)] W fun e w' => e = .returned (.bool (named (t.extract q t.size))) ∧ w' = W) := fun W => partRight_any _ W
        generalize named (t.extract q t.size) = z at *
        clear HS HE
        by_cases hm3 : (m : Int) ≤ 3
        · rw [decide_eq_true (by omega), Bool.true_and] at HE'
          go_wp2_with (go_at_call 106; refine (HP.out _).mono ?_; rintro e w1 ⟨rfl, rfl⟩)
          go_ret
          exact ⟨by rw [← HE'.out]; rfl, iter_bel _ _ _⟩
        · rw [decide_eq_false (by omega), Bool.false_and] at HE'
          go_wp2_with (go_at_call 106; refine (HP.out _).mono ?_; rintro e w1 ⟨rfl, rfl⟩)
          go_ret
          exact ⟨by rw [← HE'.out]; rfl, iter_bel _ _ _⟩
  · rw [pathR_big ht]
    have hts : ¬ (t.size : Int) ≤ 20 := by omega
    go_enter Try.func84, Try.ntmps84
    go_wp2
    go_ret
    exact ⟨rfl, Below.refl _ _⟩
end Go.Proofs.Ytfpgobkedfhakaa.Tre
