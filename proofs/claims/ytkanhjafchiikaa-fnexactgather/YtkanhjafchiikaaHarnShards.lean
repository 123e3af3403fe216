/- What the laws' own functions on lists of shards answer. -/
import Derived.Test.YtkanhjafchiikaaTextsE
import Derived.Test.YtkanhjafchiikaaTextsB
namespace Go.Proofs.Ytkanhjafchiikaa.Srt
open Go.RowKit Go.Proofs.Ytkanhjafchiikaa.Mem Go.Proofs.Ytkanhjafchiikaa.Mark Go.Proofs.Ytkanhjafchiikaa.Harn

theorem toSh1 (x : Int) (t : ByteArray) (w : World) :
    Calls Try.prog 44 #[.agg #[.int .i64 x, .string t]] w fun e w' => e = .returned (.agg #[.int .i64 x, .string t]) ∧ Below w.heap.size w w' := by
  go_enter Try.func44, Try.ntmps44
  go_wp2
  exact bodyPost_ret (v := .agg #[.int .i64 x, .string t]) (by simp [results, Try.results44, go_sem]) rfl ⟨rfl, (((Below.refl _ _).alloc (Nat.le_refl _) _).alloc (by simp) _).alloc (by simp; omega) _⟩

theorem eqSh1 (x : Int) (t : ByteArray) (w : World) :
    Calls Try.prog 45 #[.agg #[.int .i64 x, .string t], .agg #[.int .i64 x, .string t]] w fun e w' => e = .returned (.bool true) ∧ Below w.heap.size w w' := by
  go_enter Try.func45, Try.ntmps45
  go_wp2
  go_ret
  exact ⟨rfl, ((Below.refl _ _).alloc (Nat.le_refl _) _).alloc (by simp) _⟩

set_option maxHeartbeats 1000000 in
theorem eqSh_any (v u : Value) (l : List (Int × ByteArray)) (w : World) (h : Pends w v l) (h2 : Pends w u l) (hn : l.length ≤ 1100000) :
    Calls Try.prog 18 #[v, u] w fun e w' => e = .returned (.bool true) ∧ Below w.heap.size w w' := by
  obtain ⟨a, cap, rfl, hc⟩ := h
  obtain ⟨a2, cap2, rfl, hc2⟩ := h2
  have HC : Hid (∀ j (h : j < l.length), ∃ b o, a = some ⟨b, o, none⟩ ∧ w.cell? ⟨b, o + j * 2, none⟩ = some (.int .i64 l[j].1) ∧ w.cell? ⟨b, o + j * 2 + 1, none⟩ = some (.string l[j].2)) := hc
  have HC2 : Hid (∀ j (h : j < l.length), ∃ b o, a2 = some ⟨b, o, none⟩ ∧ w.cell? ⟨b, o + j * 2, none⟩ = some (.int .i64 l[j].1) ∧ w.cell? ⟨b, o + j * 2 + 1, none⟩ = some (.string l[j].2)) := hc2
  clear hc hc2
  go_enter Try.func18, Try.ntmps18
  go_wp2
  go_loopw [5] (fun i wr => ∃ k : Nat, k ≤ l.length ∧ i = .int .i64 k ∧ Below w.heap.size w wr) (fun i _ => l.length - (intOf i).toNat)
  case atStart => exact ⟨0, by omega, rfl, Below.refl _ _⟩
  case round =>
    obtain ⟨k, hk, rfl, hbel⟩ := hrel
    by_cases hlt : k < l.length
    · obtain ⟨b, o, rfl, d1, d2⟩ := HC.out k hlt
      obtain ⟨b2, o2, rfl, d3, d4⟩ := HC2.out k hlt
      have c1 : wr.cell? ⟨b, o + k * 2, none⟩ = _ := (hbel.cell (World.block_lt_of_cell? w _ d1)).trans d1
      have c2 : wr.cell? ⟨b, o + k * 2 + 1, none⟩ = _ := (hbel.cell (World.block_lt_of_cell? w _ d2)).trans d2
      have c3 : wr.cell? ⟨b2, o2 + k * 2, none⟩ = _ := (hbel.cell (World.block_lt_of_cell? w _ d3)).trans d3
      have c4 : wr.cell? ⟨b2, o2 + k * 2 + 1, none⟩ = _ := (hbel.cell (World.block_lt_of_cell? w _ d4)).trans d4
      have p1 : (k : Int) < (l.length : Int) := by omega
      generalize l[k].1 = x at *
      generalize l[k].2 = t at *
      have HB : Hid (Below w.heap.size w wr) := hbel
      clear d1 d2 d3 d4 hbel
      go_wp2_with fail
      go_region_with (go_at_call 45; refine (eqSh1 _ _ _).mono ?_; rintro e w1 ⟨rfl, hb1⟩)
      all_goals (have HB1 : Hid (Below w.heap.size w w1) := HB.out.drew.trans (hb1.mono HB.out.size))
      all_goals clear hb1
      all_goals go_wp2
      all_goals go_roundw
      all_goals first
        | exact ⟨k + 1, by omega, by go_num, HB1.out⟩
        | (simp [intOf]; omega)
    · have e : k = l.length := by omega
      subst e
      go_wp2
      go_ret
      exact ⟨rfl, hbel⟩

theorem make_sh (n : Nat) (hn : n ≤ 2000000) (w : World) :
    ∃ W1, (Instr.makeSlice 27 (.int .i64 (n : Int)) (.int .i64 (n : Int))).run Try.prog w = .ok (.slice (some ⟨w.heap.size, 0, none⟩) n n) W1 ∧ PendsAt W1 w.heap.size 0 (List.replicate n (0, ByteArray.empty)) ∧ Below w.heap.size w W1 ∧ W1.heap.size = w.heap.size + 1 := by
  obtain ⟨i, hi, hz, hs, hb⟩ := info_parts infoShard
  have hr := run_make (P := Try.prog) w 27 36 i _ underShards hi hz .i64 .i64 (n : Int) (n : Int) (by omega) (by omega) (by rw [hb]; omega) (by omega)
  simp only [Int.toNat_natCast] at hr
  refine ⟨_, hr, fun j hj => ?_, (Below.refl _ _).alloc (Nat.le_refl _) _, by simp⟩
  have hjn : j < n := by simpa using hj
  rw [hs]
  have e0 : (Value.agg #[.int .i64 0, .string ByteArray.empty]).cells = #[.int .i64 0, .string ByteArray.empty] := rfl
  rw [e0]
  refine ⟨?_, ?_, by simp, by simp⟩
  · have h1 : (j * 2) % 2 = 0 := by omega
    simp [madeCells, show j * 2 < n * 2 by omega, h1]
  · have h1 : (j * 2 + 1) % 2 = 1 := by omega
    simp [madeCells, show j * 2 + 1 < n * 2 by omega, h1]

set_option maxHeartbeats 1000000 in
theorem toSh_any (v : Value) (l : List (Int × ByteArray)) (w : World) (h : Pends w v l) (hn : l.length ≤ 1100000) :
    Calls Try.prog 16 #[v] w fun e w' => e = .returned (.slice (some ⟨w.heap.size, 0, none⟩) l.length l.length) ∧ PendsAt w' w.heap.size 0 l ∧ Below w.heap.size w w' ∧ w.heap.size < w'.heap.size := by
  obtain ⟨a, cap, rfl, hc⟩ := h
  have HC : Hid (∀ j (h : j < l.length), ∃ b o, a = some ⟨b, o, none⟩ ∧ w.cell? ⟨b, o + j * 2, none⟩ = some (.int .i64 l[j].1) ∧ w.cell? ⟨b, o + j * 2 + 1, none⟩ = some (.string l[j].2)) := hc
  obtain ⟨W1, hmk, hr1, hb1, hz1⟩ := make_sh l.length (by omega) w
  have HR : Hid _ := hr1
  have HB : Hid (Below w.heap.size w W1) := hb1
  have HZ : Hid (w.heap.size < W1.heap.size) := by unfold Hid; omega
  clear hc hr1 hb1 hz1
  go_enter Try.func16, Try.ntmps16
  go_wp2
  go_loopw [4] (fun i wr => ∃ k : Nat, k ≤ l.length ∧ i = .int .i64 k ∧ PendsAt wr w.heap.size 0 (pcopy l k) ∧ Below w.heap.size w wr ∧ w.heap.size < wr.heap.size) (fun i _ => l.length - (intOf i).toNat)
  case atStart => exact ⟨0, by omega, rfl, by rw [pcopy_start]; exact HR.out, HB.out, HZ.out⟩
  case round =>
    clear HR HB HZ
    obtain ⟨k, hk, rfl, hrow, hbel, hsz⟩ := hrel
    by_cases hlt : k < l.length
    · obtain ⟨b, o, rfl, d1, d2⟩ := HC.out k hlt
      have c1 : wr.cell? ⟨b, o + k * 2, none⟩ = _ := (hbel.cell (World.block_lt_of_cell? w _ d1)).trans d1
      have c2 : wr.cell? ⟨b, o + k * 2 + 1, none⟩ = _ := (hbel.cell (World.block_lt_of_cell? w _ d2)).trans d2
      have hlp := length_pcopy l k hk
      obtain ⟨e1, e2, f1, f2⟩ := hrow k (by omega)
      simp only [Nat.zero_add] at e1 e2 f1 f2
      have HROW : Hid (PendsAt wr w.heap.size 0 (pcopy l k)) := hrow
      have HE : Hid ((pcopy l k).set k (l[k].1, l[k].2) = pcopy l (k + 1)) := pcopy_set l k hlt
      have p1 : (k : Int) < (l.length : Int) := by omega
      generalize l[k].1 = x at *
      generalize l[k].2 = t at *
      generalize (pcopy l k)[k].1 = x0 at *
      generalize (pcopy l k)[k].2 = t0 at *
      clear d1 d2 hrow
      go_wp2_with (go_at_call 44; refine (toSh1 _ _ _).mono ?_; rintro e w1 ⟨rfl, hb1⟩; obtain ⟨hcc, hff⟩ := bcell hb1)
      have HSN : Hid (PendsAt ((w1.setCell ⟨w.heap.size, k * 2, none⟩ (.int .i64 x)).setCell ⟨w.heap.size, k * 2 + 1, none⟩ (.string t)) w.heap.size 0 (pcopy l (k + 1))) := by
        unfold Hid
        rw [← HE.out]
        have := (PendsAt.below HROW.out hb1).set (i := k) (by omega) x t
        simpa using this
      have HB1 : Hid (Below w.heap.size w w1) := hbel.trans (hb1.mono hbel.size)
      have hz1 := hb1.size
      clear hcc hff
      go_roundw
      case rel => exact ⟨k + 1, by omega, by go_num, HSN.out, (HB1.out.setCell (p := ⟨w.heap.size, k * 2, none⟩) (Nat.le_refl _) _).setCell (p := ⟨w.heap.size, k * 2 + 1, none⟩) (Nat.le_refl _) _, by simp; omega⟩
      case measure => simp [intOf]; omega
    · have e : k = l.length := by omega
      subst e
      rw [pcopy_end] at hrow
      have HR : Hid _ := hrow
      have HB : Hid (Below w.heap.size w wr) := hbel
      have HSZ : Hid (w.heap.size < wr.heap.size) := hsz
      clear hrow hbel hsz
      go_wp2
      go_ret
      exact ⟨rfl, HR.out, HB.out, HSZ.out⟩
theorem szSh1_in (x : Int) (t : ByteArray) (left : Nat) (w : World) (h : t.size ≤ left) (hl : left ≤ 1048576) :
    Calls Try.prog 43 #[.agg #[.int .i64 x, .string t], .int .i64 (left : Int)] w fun e w' => e = .returned (.int .i64 ((left - t.size : Nat) : Int)) ∧ Below w.heap.size w w' := by
  have e1 : ((left - t.size : Nat) : Int) = (left : Int) - (t.size : Int) := by omega
  rw [e1]
  go_enter Try.func43, Try.ntmps43
  go_wp2
  go_ret
  exact ⟨rfl, (Below.refl _ _).alloc (Nat.le_refl _) _⟩
theorem szSh1_out (x : Int) (t : ByteArray) (left : Nat) (w : World) (h : left < t.size) (ht : t.size ≤ 9223372036854775807) (hl : left ≤ 1048576) :
    Calls Try.prog 43 #[.agg #[.int .i64 x, .string t], .int .i64 (left : Int)] w fun e w' => e = .returned (.int .i64 (-1)) ∧ Below w.heap.size w w' := by
  go_enter Try.func43, Try.ntmps43
  go_wp2
  go_ret
  exact ⟨rfl, (Below.refl _ _).alloc (Nat.le_refl _) _⟩

set_option maxHeartbeats 1000000 in
theorem szSh_any (v : Value) (l : List (Int × ByteArray)) (left : Nat) (w : World) (h : Pends w v l) (hn : l.length ≤ maxLen) (hl : left ≤ 1048576) (hs : ∀ y ∈ l, y.2.size ≤ maxLen) :
    Calls Try.prog 15 #[v, .int .i64 (left : Int)] w fun e w' => Below w.heap.size w w' ∧ ((∃ r : Nat, e = .returned (.int .i64 (r : Int)) ∧ r + l.length + wtP l = left) ∨ (e = .returned (.int .i64 (-1)) ∧ left < l.length + wtP l)) := by
  obtain ⟨a, cap, rfl, hc⟩ := h
  have HC : Hid (∀ j (h : j < l.length), ∃ b o, a = some ⟨b, o, none⟩ ∧ w.cell? ⟨b, o + j * 2, none⟩ = some (.int .i64 l[j].1) ∧ w.cell? ⟨b, o + j * 2 + 1, none⟩ = some (.string l[j].2)) := hc
  have HSS : Hid (∀ y ∈ l, y.2.size ≤ maxLen) := hs
  unfold maxLen at hn
  clear hc hs
  by_cases h0 : left < l.length
  · go_enter Try.func15, Try.ntmps15
    go_wp2
    go_ret
    exact ⟨Below.refl _ _, .inr ⟨rfl, by omega⟩⟩
  · go_enter Try.func15, Try.ntmps15
    go_wp2
    go_loopw [1, 5] (fun r i wr => Below w.heap.size w wr ∧ ∃ k r' : Nat, k ≤ l.length ∧ i = .int .i64 k ∧ r = .int .i64 (r' : Int) ∧ r' + l.length + wtP (l.take k) = left) (fun _ i _ => l.length - (intOf i).toNat)
    case atStart => exact ⟨Below.refl _ _, 0, left - l.length, by omega, rfl, by congr 1; omega, by simp [wtP, wt]; omega⟩
    case round =>
      obtain ⟨hbel, k, r', hk, rfl, rfl, hr⟩ := hrel
      by_cases hlt : k < l.length
      · obtain ⟨b, o, rfl, d1, d2⟩ := HC.out k hlt
        have c1 : wr.cell? ⟨b, o + k * 2, none⟩ = _ := (hbel.cell (World.block_lt_of_cell? w _ d1)).trans d1
        have c2 : wr.cell? ⟨b, o + k * 2 + 1, none⟩ = _ := (hbel.cell (World.block_lt_of_cell? w _ d2)).trans d2
        have p1 : (k : Int) < (l.length : Int) := by omega
        have hw := wtP_take l k hlt
        have hle := wtP_le l (k + 1)
        have hts : l[k].2.size ≤ 9223372036854775807 := HSS.out _ (List.getElem_mem hlt)
        generalize l[k].1 = x at *
        generalize l[k].2 = t at *
        have HB : Hid (Below w.heap.size w wr) := hbel
        clear d1 d2 hbel
        by_cases hbig : r' < t.size
        · have KO : Hid (∀ W, Calls Try.prog 43 #[.agg #[.int .i64 x, .string t], .int .i64 (r' : Int)] W fun e w' => e = .returned (.int .i64 (-1)) ∧ Below W.heap.size W w') := fun W => szSh1_out x t r' W hbig hts (by omega)
          go_wp2_with (go_at_call 43; refine (KO.out _).mono ?_; rintro e w1 ⟨rfl, hb1⟩)
          go_ret
          exact ⟨HB.out.trans (hb1.mono HB.out.size), .inr ⟨rfl, by omega⟩⟩
        · have KI : Hid (∀ W, Calls Try.prog 43 #[.agg #[.int .i64 x, .string t], .int .i64 (r' : Int)] W fun e w' => e = .returned (.int .i64 ((r' - t.size : Nat) : Int)) ∧ Below W.heap.size W w') := fun W => szSh1_in x t r' W (by omega) (by omega)
          obtain ⟨r2, hr2⟩ : ∃ r2, r2 = r' - t.size := ⟨_, rfl⟩
          rw [← hr2] at KI
          have HR2 : Hid (r2 = r' - t.size) := hr2
          clear hr2
          go_wp2_with (go_at_call 43; refine (KI.out _).mono ?_; rintro e w1 ⟨rfl, hb1⟩)
          have hr3 := HR2.out
          go_roundw
          case rel => exact ⟨HB.out.trans (hb1.mono HB.out.size), k + 1, r2, by omega, by go_num, rfl, by omega⟩
          case measure => simp [intOf]; omega
      · have e : k = l.length := by omega
        subst e
        rw [List.take_length] at hr
        go_wp2
        go_ret
        exact ⟨hbel, .inl ⟨r', rfl, hr⟩⟩
end Go.Proofs.Ytkanhjafchiikaa.Srt
