/- Lists of files and trees, compared, copied, sized, marked and held by the laws' own functions. -/
import Derived.Test.YtfpgobkedfhakaaHarnFile
namespace Go.Proofs.Ytfpgobkedfhakaa.Tre
open Go.RowKit Go.Proofs.Ytfpgobkedfhakaa.Mem Go.Proofs.Ytfpgobkedfhakaa.Mark Go.Proofs.Ytfpgobkedfhakaa.Harn

def RC (W : World) (a : Option Addr) (l : List Fl) : Prop := ∀ j (h : j < l.length), ∃ b o, a = some ⟨b, o, none⟩ ∧ W.cell? ⟨b, o + j * 3, none⟩ = some (.string l[j].p) ∧ W.cell? ⟨b, o + j * 3 + 1, none⟩ = some (.int .i64 l[j].m) ∧ W.cell? ⟨b, o + j * 3 + 2, none⟩ = some (.string l[j].d)

set_option maxHeartbeats 1000000 in
theorem eqFiles_any (v u : Value) (l : List Fl) (w : World) (h : Files w v l) (h2 : Files w u l) (hn : l.length ≤ 1100000) :
    Calls Try.prog 52 #[v, u] w fun e w' => e = .returned (.bool true) ∧ Below w.heap.size w w' := by
  obtain ⟨a, cap, rfl, hc⟩ := h
  obtain ⟨a2, cap2, rfl, hc2⟩ := h2
  have HC : Hid (RC w a l) := hc
  have HC2 : Hid (RC w a2 l) := hc2
  clear hc hc2
  go_enter Try.func52, Try.ntmps52
  go_wp2
  go_loopw [5] (fun i wr => ∃ k : Nat, k ≤ l.length ∧ i = .int .i64 k ∧ Below w.heap.size w wr) (fun i _ => l.length - (intOf i).toNat)
  case atStart => exact ⟨0, by omega, rfl, Below.refl _ _⟩
  case round =>
    obtain ⟨k, hk, rfl, hbel⟩ := hrel
    by_cases hlt : k < l.length
    · obtain ⟨b, o, rfl, d1, d2, d3⟩ := HC.out k hlt
      obtain ⟨b2, o2, rfl, d4, d5, d6⟩ := HC2.out k hlt
      have c1 : wr.cell? ⟨b, o + k * 3, none⟩ = _ := (hbel.cell (World.block_lt_of_cell? w _ d1)).trans d1
      have c2 : wr.cell? ⟨b, o + k * 3 + 1, none⟩ = _ := (hbel.cell (World.block_lt_of_cell? w _ d2)).trans d2
      have c3 : wr.cell? ⟨b, o + k * 3 + 2, none⟩ = _ := (hbel.cell (World.block_lt_of_cell? w _ d3)).trans d3
      have c4 : wr.cell? ⟨b2, o2 + k * 3, none⟩ = _ := (hbel.cell (World.block_lt_of_cell? w _ d4)).trans d4
      have c5 : wr.cell? ⟨b2, o2 + k * 3 + 1, none⟩ = _ := (hbel.cell (World.block_lt_of_cell? w _ d5)).trans d5
      have c6 : wr.cell? ⟨b2, o2 + k * 3 + 2, none⟩ = _ := (hbel.cell (World.block_lt_of_cell? w _ d6)).trans d6
      have p1 : (k : Int) < (l.length : Int) := by omega
      have HE : Hid (∀ W, Calls Try.prog 93 #[.agg #[.string l[k].p, .int .i64 l[k].m, .string l[k].d], .agg #[.string l[k].p, .int .i64 l[k].m, .string l[k].d]] W fun e w' => e = .returned (.bool true) ∧ Below W.heap.size W w') := fun W => eqFile1 l[k] W
      generalize l[k].p = x at *
      generalize l[k].m = y at *
      generalize l[k].d = z at *
      have HB : Hid (Below w.heap.size w wr) := hbel
      clear d1 d2 d3 d4 d5 d6 hbel
      go_wp2_with fail
      go_region_with (go_at_call 93; refine (HE.out _).mono ?_; rintro e w1 ⟨rfl, hb1⟩)
      all_goals (have HB1 : Hid (Below w.heap.size w w1) := HB.out.drew.trans (hb1.mono HB.out.size))
      all_goals clear hb1
      all_goals go_wp2
      all_goals go_roundw
      all_goals first
        | exact ⟨k + 1, by omega, by go_num, HB1.out⟩
        | (simp [intOf]; omega)
    · have e : k = l.length := by omega
      subst e
      go_wp2
      go_ret
      exact ⟨rfl, hbel⟩

theorem infoFile : (Try.prog.info? 36).map (fun i => (i.zero, i.size, i.bytes)) = some (some (.agg #[.string ByteArray.empty, .int .i64 0, .string ByteArray.empty]), 3, 40) := by kernel_rfl
theorem underFiles : Try.prog.underlying 29 = some (.slice 36) := by kernel_rfl

theorem make_files (n : Nat) (hn : n ≤ 2000000) (w : World) :
    ∃ W1, (Instr.makeSlice 29 (.int .i64 (n : Int)) (.int .i64 (n : Int))).run Try.prog w = .ok (.slice (some ⟨w.heap.size, 0, none⟩) n n) W1 ∧ FilesAt W1 w.heap.size 0 (List.replicate n Fl.zero) ∧ Below w.heap.size w W1 ∧ W1.heap.size = w.heap.size + 1 := by
  obtain ⟨i, hi, hz, hs, hb⟩ := info_parts infoFile
  have hr := run_make (P := Try.prog) w 29 36 i _ underFiles hi hz .i64 .i64 (n : Int) (n : Int) (by omega) (by omega) (by rw [hb]; omega) (by omega)
  simp only [Int.toNat_natCast] at hr
  refine ⟨_, hr, fun j hj => ?_, (Below.refl _ _).alloc (Nat.le_refl _) _, by simp⟩
  have hjn : j < n := by simpa using hj
  rw [hs]
  have e0 : (Value.agg #[.string ByteArray.empty, .int .i64 0, .string ByteArray.empty]).cells = #[.string ByteArray.empty, .int .i64 0, .string ByteArray.empty] := rfl
  rw [e0]
  refine ⟨⟨?_, ?_, ?_⟩, by simp, by simp, by simp⟩
  · have h1 : (j * 3) % 3 = 0 := by omega
    simp [madeCells, show j * 3 < n * 3 by omega, h1, Fl.zero]
  · have h1 : (j * 3 + 1) % 3 = 1 := by omega
    simp [madeCells, show j * 3 + 1 < n * 3 by omega, h1, Fl.zero]
  · have h1 : (j * 3 + 2) % 3 = 2 := by omega
    simp [madeCells, show j * 3 + 2 < n * 3 by omega, h1, Fl.zero]

/-- A list of files of which the first k are laid. -/
def fcopy (l : List Fl) (k : Nat) : List Fl := l.take k ++ List.replicate (l.length - k) Fl.zero
theorem length_fcopy (l : List Fl) (k : Nat) (h : k ≤ l.length) : (fcopy l k).length = l.length := by simp [fcopy]; omega
theorem fcopy_start (l : List Fl) : fcopy l 0 = List.replicate l.length Fl.zero := by simp [fcopy]
theorem fcopy_end (l : List Fl) : fcopy l l.length = l := by simp [fcopy]
theorem fcopy_set (l : List Fl) (k : Nat) (hk : k < l.length) : (fcopy l k).set k l[k] = fcopy l (k + 1) := by
  have hl : (l.take k).length = k := by simp; omega
  unfold fcopy
  rw [List.set_append_right _ _ (by omega), hl, Nat.sub_self, show l.length - k = (l.length - (k + 1)) + 1 by omega, List.replicate_succ, List.set_cons_zero, List.take_succ_eq_append_getElem hk]
  simp only [List.append_assoc, List.singleton_append]

set_option maxHeartbeats 1000000 in
theorem toFiles_any (v : Value) (l : List Fl) (w : World) (h : Files w v l) (hn : l.length ≤ 1100000) :
    Calls Try.prog 46 #[v] w fun e w' => e = .returned (.slice (some ⟨w.heap.size, 0, none⟩) l.length l.length) ∧ FilesAt w' w.heap.size 0 l ∧ Below w.heap.size w w' ∧ w.heap.size < w'.heap.size := by
  obtain ⟨a, cap, rfl, hc⟩ := h
  have HC : Hid (RC w a l) := hc
  obtain ⟨W1, hmk, hr1, hb1, hz1⟩ := make_files l.length (by omega) w
  have HR : Hid _ := hr1
  have HB : Hid (Below w.heap.size w W1) := hb1
  have HZ : Hid (w.heap.size < W1.heap.size) := by unfold Hid; omega
  clear hc hr1 hb1 hz1
  go_enter Try.func46, Try.ntmps46
  go_wp2
  go_loopw [4] (fun i wr => ∃ k : Nat, k ≤ l.length ∧ i = .int .i64 k ∧ FilesAt wr w.heap.size 0 (fcopy l k) ∧ Below w.heap.size w wr ∧ w.heap.size < wr.heap.size) (fun i _ => l.length - (intOf i).toNat)
  case atStart => exact ⟨0, by omega, rfl, by rw [fcopy_start]; exact HR.out, HB.out, HZ.out⟩
  case round =>
    clear HR HB HZ
    obtain ⟨k, hk, rfl, hrow, hbel, hsz⟩ := hrel
    by_cases hlt : k < l.length
    · obtain ⟨b, o, rfl, d1, d2, d3⟩ := HC.out k hlt
      have c1 : wr.cell? ⟨b, o + k * 3, none⟩ = _ := (hbel.cell (World.block_lt_of_cell? w _ d1)).trans d1
      have c2 : wr.cell? ⟨b, o + k * 3 + 1, none⟩ = _ := (hbel.cell (World.block_lt_of_cell? w _ d2)).trans d2
      have c3 : wr.cell? ⟨b, o + k * 3 + 2, none⟩ = _ := (hbel.cell (World.block_lt_of_cell? w _ d3)).trans d3
      have hlp := length_fcopy l k hk
      obtain ⟨⟨e1, e2, e3⟩, f1, f2, f3⟩ := hrow k (by omega)
      simp only [Nat.zero_add] at e1 e2 e3 f1 f2 f3
      have HROW : Hid (FilesAt wr w.heap.size 0 (fcopy l k)) := hrow
      have HE : Hid ((fcopy l k).set k ⟨l[k].p, l[k].m, l[k].d⟩ = fcopy l (k + 1)) := fcopy_set l k hlt
      have p1 : (k : Int) < (l.length : Int) := by omega
      have HT : Hid (∀ W, Calls Try.prog 13 #[.agg #[.string l[k].p, .int .i64 l[k].m, .string l[k].d]] W fun e w' => e = .returned (.agg #[.string l[k].p, .int .i64 l[k].m, .string l[k].d]) ∧ Below W.heap.size W w') := fun W => toFile1 l[k] W
      generalize l[k].p = x at *
      generalize l[k].m = y at *
      generalize l[k].d = z at *
      generalize (fcopy l k)[k].p = x0 at *
      generalize (fcopy l k)[k].m = y0 at *
      generalize (fcopy l k)[k].d = z0 at *
      clear d1 d2 d3 hrow
      go_wp2_with (go_at_call 13; refine (HT.out _).mono ?_; rintro e w1 ⟨rfl, hb1⟩; obtain ⟨hcc, hff⟩ := bcell hb1)
      have HSN : Hid (FilesAt (((w1.setCell ⟨w.heap.size, k * 3, none⟩ (.string x)).setCell ⟨w.heap.size, k * 3 + 1, none⟩ (.int .i64 y)).setCell ⟨w.heap.size, k * 3 + 2, none⟩ (.string z)) w.heap.size 0 (fcopy l (k + 1))) := by
        unfold Hid
        rw [← HE.out]
        have := (FilesAt.below HROW.out hb1).set (i := k) (by omega) ⟨x, y, z⟩
        simpa using this
      have HB1 : Hid (Below w.heap.size w w1) := hbel.trans (hb1.mono hbel.size)
      have hz1 := hb1.size
      clear hcc hff
      go_roundw
      case rel => exact ⟨k + 1, by omega, by go_num, HSN.out, ((HB1.out.setCell (p := ⟨w.heap.size, k * 3, none⟩) (Nat.le_refl _) _).setCell (p := ⟨w.heap.size, k * 3 + 1, none⟩) (Nat.le_refl _) _).setCell (p := ⟨w.heap.size, k * 3 + 2, none⟩) (Nat.le_refl _) _, by simp; omega⟩
      case measure => simp [intOf]; omega
    · have e : k = l.length := by omega
      subst e
      rw [fcopy_end] at hrow
      have HR : Hid _ := hrow
      have HB : Hid (Below w.heap.size w wr) := hbel
      have HSZ : Hid (w.heap.size < wr.heap.size) := hsz
      clear hrow hbel hsz
      go_wp2
      go_ret
      exact ⟨rfl, HR.out, HB.out, HSZ.out⟩

/-- how many bytes the files hold -/
def wtF (l : List Fl) : Nat := (l.map fun f => f.p.size + f.d.size).sum
theorem wtF_take (l : List Fl) (k : Nat) (h : k < l.length) : wtF (l.take (k + 1)) = wtF (l.take k) + (l[k].p.size + l[k].d.size) := by
  unfold wtF; rw [List.take_succ_eq_append_getElem h, List.map_append, List.sum_append]; simp only [List.map_cons, List.map_nil, List.sum_cons, List.sum_nil, Nat.add_zero]
theorem wtF_le (l : List Fl) (k : Nat) : wtF (l.take k) ≤ wtF l := by
  have e : wtF l = wtF (l.take k) + wtF (l.drop k) := by
    unfold wtF
    rw [← List.sum_append, ← List.map_append, List.take_append_drop]
  omega
set_option maxHeartbeats 1000000 in
theorem szFiles_any (v : Value) (l : List Fl) (left : Nat) (w : World) (h : Files w v l) (hn : l.length ≤ maxLen) (hl : left ≤ 1048576) (hs : ∀ y ∈ l, y.p.size ≤ maxLen ∧ y.d.size ≤ maxLen) :
    Calls Try.prog 41 #[v, .int .i64 (left : Int)] w fun e w' => Below w.heap.size w w' ∧ ((∃ r : Nat, e = .returned (.int .i64 (r : Int)) ∧ r + l.length + wtF l = left) ∨ (e = .returned (.int .i64 (-1)) ∧ left < l.length + wtF l)) := by
  obtain ⟨a, cap, rfl, hc⟩ := h
  have HC : Hid (RC w a l) := hc
  have HSS : Hid (∀ y ∈ l, y.p.size ≤ maxLen ∧ y.d.size ≤ maxLen) := hs
  unfold maxLen at hn
  clear hc hs
  by_cases h0 : left < l.length
  · go_enter Try.func41, Try.ntmps41
    go_wp2
    go_ret
    exact ⟨Below.refl _ _, .inr ⟨rfl, by omega⟩⟩
  · go_enter Try.func41, Try.ntmps41
    go_wp2
    go_loopw [1, 5] (fun r i wr => Below w.heap.size w wr ∧ ∃ k r' : Nat, k ≤ l.length ∧ i = .int .i64 k ∧ r = .int .i64 (r' : Int) ∧ r' + l.length + wtF (l.take k) = left) (fun _ i _ => l.length - (intOf i).toNat)
    case atStart => exact ⟨Below.refl _ _, 0, left - l.length, by omega, rfl, by congr 1; omega, by simp [wtF]; omega⟩
    case round =>
      obtain ⟨hbel, k, r', hk, rfl, rfl, hr⟩ := hrel
      by_cases hlt : k < l.length
      · obtain ⟨b, o, rfl, d1, d2, d3⟩ := HC.out k hlt
        have c1 : wr.cell? ⟨b, o + k * 3, none⟩ = _ := (hbel.cell (World.block_lt_of_cell? w _ d1)).trans d1
        have c2 : wr.cell? ⟨b, o + k * 3 + 1, none⟩ = _ := (hbel.cell (World.block_lt_of_cell? w _ d2)).trans d2
        have c3 : wr.cell? ⟨b, o + k * 3 + 2, none⟩ = _ := (hbel.cell (World.block_lt_of_cell? w _ d3)).trans d3
        have p1 : (k : Int) < (l.length : Int) := by omega
        have hw := wtF_take l k hlt
        have hle := wtF_le l (k + 1)
        obtain ⟨hts, htd⟩ := HSS.out _ (List.getElem_mem hlt)
        unfold maxLen at hts htd
        have KO : Hid (r' < l[k].p.size + l[k].d.size → ∀ W, Calls Try.prog 10 #[.agg #[.string l[k].p, .int .i64 l[k].m, .string l[k].d], .int .i64 (r' : Int)] W fun e w' => e = .returned (.int .i64 (-1)) ∧ Below W.heap.size W w') := fun h W => szFile_out l[k] r' W h hts htd (by omega)
        have KI : Hid (l[k].p.size + l[k].d.size ≤ r' → ∀ W, Calls Try.prog 10 #[.agg #[.string l[k].p, .int .i64 l[k].m, .string l[k].d], .int .i64 (r' : Int)] W fun e w' => e = .returned (.int .i64 ((r' - (l[k].p.size + l[k].d.size) : Nat) : Int)) ∧ Below W.heap.size W w') := fun h W => szFile_in l[k] r' W h (by omega)
        generalize l[k].p = x at *
        generalize l[k].m = y at *
        generalize l[k].d = z at *
        have HB : Hid (Below w.heap.size w wr) := hbel
        clear d1 d2 d3 hbel hts htd
        by_cases hbig : r' < x.size + z.size
        · have KO' : Hid _ := KO.out hbig
          clear KI KO
          go_wp2_with (go_at_call 10; refine (KO'.out _).mono ?_; rintro e w1 ⟨rfl, hb1⟩)
          go_ret
          exact ⟨HB.out.trans (hb1.mono HB.out.size), .inr ⟨rfl, by omega⟩⟩
        · have KI' : Hid _ := KI.out (by omega)
          obtain ⟨r2, hr2⟩ : ∃ r2, r2 = r' - (x.size + z.size) := ⟨_, rfl⟩
          rw [← hr2] at KI'
          have HR2 : Hid (r2 = r' - (x.size + z.size)) := hr2
          clear hr2 KO KI
          go_wp2_with (go_at_call 10; refine (KI'.out _).mono ?_; rintro e w1 ⟨rfl, hb1⟩)
          have hr3 := HR2.out
          go_roundw
          case rel => exact ⟨HB.out.trans (hb1.mono HB.out.size), k + 1, r2, by omega, by go_num, rfl, by omega⟩
          case measure => simp [intOf]; omega
      · have e : k = l.length := by omega
        subst e
        rw [List.take_length] at hr
        go_wp2
        go_ret
        exact ⟨hbel, .inl ⟨r', rfl, hr⟩⟩
end Go.Proofs.Ytfpgobkedfhakaa.Tre
