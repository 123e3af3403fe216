/- What the program's looks at two texts answer. -/
import Derived.Test.YtfpgobkedfhakaaStepsPure
import Derived.BigQuiet
import Derived.Deep.QuietTactic
namespace Go.Proofs.Ytfpgobkedfhakaa.Del
open Go.RowKit Go.Proofs.Ytfpgobkedfhakaa.Mem Go.Proofs.Ytfpgobkedfhakaa.Mark Go.Proofs.Ytfpgobkedfhakaa.Harn Go.Proofs.Ytfpgobkedfhakaa.Rws

theorem byte_eq {x y : UInt8} : (((x.toNat : Nat) : Int) == ((y.toNat : Nat) : Int)) = decide (x = y) := by
  rw [Bool.eq_iff_iff]
  simp only [beq_iff_eq, decide_eq_true_eq]
  constructor
  · intro h; exact UInt8.toNat_inj.1 (Int.ofNat.inj h)
  · rintro rfl; rfl
theorem ret_int {k : IntKind} {a b : Int} (h : a = b) : Ending.returned (.int k a) = .returned (.int k b) := by rw [h]
theorem bel_d {w wr : World} (h : Below w.heap.size w wr) (n : Nat) : Below w.heap.size w (wr.drewN n) := Sha.bel_drewN h n
set_option maxHeartbeats 1000000 in
theorem ahead2_any (a b : ByteArray) (w : World) (ha : a.size ≤ 1000000000) (hb : b.size ≤ 1000000000) :
    Calls Try.prog 61 #[.string a, .string b] w fun e w' => e = .returned (.int .i64 (preN a b : Nat)) ∧ Below w.heap.size w w' := by
  go_enter Try.func61, Try.ntmps61
  go_wp2
  go_loopw [5] (fun i wr => ∃ k : Nat, k ≤ a.size ∧ k ≤ b.size ∧ i = .int .i64 k ∧ Below w.heap.size w wr ∧ Hid (preGo a b k = preGo a b 0)) (fun i _ => a.size - (intOf i).toNat)
  case atStart => exact ⟨0, by omega, by omega, rfl, Below.refl _ _, rfl⟩
  case round =>
    obtain ⟨k, hka, hkb, rfl, hbel, HP⟩ := hrel
    have HB := hidR hbel
    clear hbel
    have p0 : (0 : Int) ≤ (k : Int) := by omega
    by_cases h1 : k < a.size
    · have d1 : decide ((k : Int) < (a.size : Int)) = true := by simpa using h1
      by_cases h2 : k < b.size
      · have d2 : decide ((k : Int) < (b.size : Int)) = true := by simpa using h2
        by_cases he : a[k] = b[k]
        · have d3 : (((a[k].toNat : Nat) : Int) == ((b[k].toNat : Nat) : Int)) = true := by rw [byte_eq]; simpa using he
          have HP2 : Hid (preGo a b (k + 1) = preGo a b 0) := by
            have := HP.out
            rw [pre_hit h1 h2 he] at this; exact this
          clear he HP
          go_wp2_with fail
          go_quiet (fail)
          go_wp2
          go_roundw
          case rel => exact ⟨k + 1, by omega, by omega, by go_num, bel_d HB.out _, HP2⟩
          case measure => simp [intOf]; omega
        · have d3 : (((a[k].toNat : Nat) : Int) == ((b[k].toNat : Nat) : Int)) = false := by rw [byte_eq]; simpa using he
          have HE : Hid (k = preGo a b 0) := by rw [← HP.out, pre_miss h1 h2 he]; rfl
          clear he HP
          go_wp2_with fail
          go_quiet (fail)
          go_wp2
          go_ret
          exact ⟨ret_int (congrArg Nat.cast HE.out), bel_d HB.out _⟩
      · have d2 : decide ((k : Int) < (b.size : Int)) = false := by simpa using h2
        have HE : Hid (k = preGo a b 0) := by rw [← HP.out, pre_end (by omega)]; rfl
        clear HP
        go_wp2_with fail
        go_quiet (fail)
        go_wp2
        go_ret
        exact ⟨ret_int (congrArg Nat.cast HE.out), bel_d HB.out _⟩
    · have d1 : decide ((k : Int) < (a.size : Int)) = false := by simpa using h1
      have HE : Hid (k = preGo a b 0) := by rw [← HP.out, pre_end (by omega)]; rfl
      clear HP
      go_wp2_with fail
      go_quiet (fail)
      go_wp2
      go_ret
      exact ⟨ret_int (congrArg Nat.cast HE.out), bel_d HB.out _⟩
set_option maxHeartbeats 1000000 in
theorem behind_any (a b : ByteArray) (w : World) (ha : a.size ≤ 1000000000) (hb : b.size ≤ 1000000000) :
    Calls Try.prog 62 #[.string a, .string b] w fun e w' => e = .returned (.int .i64 (sufGo a b 0 0 : Nat)) ∧ Below w.heap.size w w' := by
  go_enter Try.func62, Try.ntmps62
  go_wp2
  go_loopw [5] (fun i wr => ∃ k : Nat, k ≤ a.size ∧ k ≤ b.size ∧ i = .int .i64 k ∧ Below w.heap.size w wr ∧ Hid (sufGo a b 0 k = sufGo a b 0 0)) (fun i _ => a.size - (intOf i).toNat)
  case atStart => exact ⟨0, by omega, by omega, rfl, Below.refl _ _, rfl⟩
  case round =>
    obtain ⟨k, hka, hkb, rfl, hbel, HP⟩ := hrel
    have HB := hidR hbel
    clear hbel
    have p0 : (0 : Int) ≤ (k : Int) := by omega
    by_cases h1 : k < a.size
    · have d1 : decide ((k : Int) < (a.size : Int)) = true := by simpa using h1
      by_cases h2 : k < b.size
      · have d2 : decide ((k : Int) < (b.size : Int)) = true := by simpa using h2
        obtain ⟨m, hm⟩ : ∃ m, m = a.size - 1 - k := ⟨_, rfl⟩
        obtain ⟨n, hn⟩ : ∃ n, n = b.size - 1 - k := ⟨_, rfl⟩
        have hma : m < a.size := by omega
        have hnb : n < b.size := by omega
        have q1 : (m : Int) < (a.size : Int) := by omega
        have q2 : (n : Int) < (b.size : Int) := by omega
        have q3 : (0 : Int) ≤ (m : Int) := by omega
        have q4 : (0 : Int) ≤ (n : Int) := by omega
        have r1 : IntKind.i64.wrap ((a.size : Int) - 1) = (a.size : Int) - 1 := IntWalk.i64_in _ ⟨by omega, by omega⟩
        have r2 : IntKind.i64.wrap ((b.size : Int) - 1) = (b.size : Int) - 1 := IntWalk.i64_in _ ⟨by omega, by omega⟩
        have r3 : IntKind.i64.wrap ((a.size : Int) - 1 - (k : Int)) = (m : Int) := by rw [show (a.size : Int) - 1 - (k : Int) = (m : Int) by omega]; exact IntWalk.i64_in _ ⟨by omega, by omega⟩
        have r4 : IntKind.i64.wrap ((b.size : Int) - 1 - (k : Int)) = (n : Int) := by rw [show (b.size : Int) - 1 - (k : Int) = (n : Int) by omega]; exact IntWalk.i64_in _ ⟨by omega, by omega⟩
        have KH : Hid (a[m]'hma = b[n]'hnb → sufGo a b 0 k = sufGo a b 0 (k + 1)) := fun h => by subst hm hn; exact suf_hit (by omega) (by omega) h
        have KM : Hid (¬ a[m]'hma = b[n]'hnb → sufGo a b 0 k = k) := fun h => by subst hm hn; exact suf_miss (by omega) (by omega) h
        clear hm hn
        by_cases he : a[m]'hma = b[n]'hnb
        · have d3 : (((a[m].toNat : Nat) : Int) == ((b[n].toNat : Nat) : Int)) = true := by rw [byte_eq]; simpa using he
          have HP2 : Hid (sufGo a b 0 (k + 1) = sufGo a b 0 0) := by
            have := HP.out
            rw [KH.out he] at this; exact this
          clear he HP KH KM
          go_wp2_with fail
          go_quiet (fail)
          go_wp2
          go_roundw
          case rel => exact ⟨k + 1, by omega, by omega, by go_num, bel_d HB.out _, HP2⟩
          case measure => simp [intOf]; omega
        · have d3 : (((a[m].toNat : Nat) : Int) == ((b[n].toNat : Nat) : Int)) = false := by rw [byte_eq]; simpa using he
          have HE : Hid (k = sufGo a b 0 0) := by rw [← HP.out, KM.out he]; rfl
          clear he HP KH KM
          go_wp2_with fail
          go_quiet (fail)
          go_wp2
          go_ret
          exact ⟨ret_int (congrArg Nat.cast HE.out), bel_d HB.out _⟩
      · have d2 : decide ((k : Int) < (b.size : Int)) = false := by simpa using h2
        have HE : Hid (k = sufGo a b 0 0) := by rw [← HP.out, suf_end (by omega)]; rfl
        clear HP
        go_wp2_with fail
        go_quiet (fail)
        go_wp2
        go_ret
        exact ⟨ret_int (congrArg Nat.cast HE.out), bel_d HB.out _⟩
    · have d1 : decide ((k : Int) < (a.size : Int)) = false := by simpa using h1
      have HE : Hid (k = sufGo a b 0 0) := by rw [← HP.out, suf_end (by omega)]; rfl
      clear HP
      go_wp2_with fail
      go_quiet (fail)
      go_wp2
      go_ret
      exact ⟨ret_int (congrArg Nat.cast HE.out), bel_d HB.out _⟩
end Go.Proofs.Ytfpgobkedfhakaa.Del
