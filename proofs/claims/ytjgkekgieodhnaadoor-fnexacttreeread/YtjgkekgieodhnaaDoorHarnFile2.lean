/- Lists of files and trees, compared, copied, sized, marked and held by the laws' own functions. -/
import Derived.Test.YtjgkekgieodhnaaDoorHarnFile
namespace Go.Proofs.YtjgkekgieodhnaaDoor.Tre
open Go.RowKit Go.Proofs.YtjgkekgieodhnaaDoor.Mem Go.Proofs.YtjgkekgieodhnaaDoor.Mark Go.Proofs.YtjgkekgieodhnaaDoor.Harn

def RC (W : World) (a : Option Addr) (l : List Fl) : Prop := ∀ j (h : j < l.length), ∃ b o, a = some ⟨b, o, none⟩ ∧ W.cell? ⟨b, o + j * 3, none⟩ = some (.string l[j].p) ∧ W.cell? ⟨b, o + j * 3 + 1, none⟩ = some (.int .i64 l[j].m) ∧ W.cell? ⟨b, o + j * 3 + 2, none⟩ = some (.string l[j].d)

set_option maxHeartbeats 1000000 in
theorem eqFiles_any (v u : Value) (l : List Fl) (w : World) (h : Files w v l) (h2 : Files w u l) (hn : l.length ≤ 1100000) :
    Calls Tryd.prog 32 #[v, u] w fun e w' => e = .returned (.bool true) ∧ Below w.heap.size w w' := by
  obtain ⟨a, cap, rfl, hc⟩ := h
  obtain ⟨a2, cap2, rfl, hc2⟩ := h2
  have HC : Hid (RC w a l) := hc
  have HC2 : Hid (RC w a2 l) := hc2
  clear hc hc2
  go_enter Tryd.func32, Tryd.ntmps32
  go_wp2
  go_loopw [5] (fun i wr => ∃ k : Nat, k ≤ l.length ∧ i = .int .i64 k ∧ Below w.heap.size w wr) (fun i _ => l.length - (intOf i).toNat)
  case atStart => exact ⟨0, by omega, rfl, Below.refl _ _⟩
  case round =>
    obtain ⟨k, hk, rfl, hbel⟩ := hrel
    by_cases hlt : k < l.length
    · obtain ⟨b, o, rfl, d1, d2, d3⟩ := HC.out k hlt
      obtain ⟨b2, o2, rfl, d4, d5, d6⟩ := HC2.out k hlt
      have c1 : wr.cell? ⟨b, o + k * 3, none⟩ = _ := (hbel.cell (World.block_lt_of_cell? w _ d1)).trans d1
      have c2 : wr.cell? ⟨b, o + k * 3 + 1, none⟩ = _ := (hbel.cell (World.block_lt_of_cell? w _ d2)).trans d2
      have c3 : wr.cell? ⟨b, o + k * 3 + 2, none⟩ = _ := (hbel.cell (World.block_lt_of_cell? w _ d3)).trans d3
      have c4 : wr.cell? ⟨b2, o2 + k * 3, none⟩ = _ := (hbel.cell (World.block_lt_of_cell? w _ d4)).trans d4
      have c5 : wr.cell? ⟨b2, o2 + k * 3 + 1, none⟩ = _ := (hbel.cell (World.block_lt_of_cell? w _ d5)).trans d5
      have c6 : wr.cell? ⟨b2, o2 + k * 3 + 2, none⟩ = _ := (hbel.cell (World.block_lt_of_cell? w _ d6)).trans d6
      have p1 : (k : Int) < (l.length : Int) := by omega
      have HE : Hid (∀ W, Calls Tryd.prog 49 #[.agg #[.string l[k].p, .int .i64 l[k].m, .string l[k].d], .agg #[.string l[k].p, .int .i64 l[k].m, .string l[k].d]] W fun e w' => e = .returned (.bool true) ∧ Below W.heap.size W w') := fun W => eqFile1 l[k] W
      generalize l[k].p = x at *
      generalize l[k].m = y at *
      generalize l[k].d = z at *
      have HB : Hid (Below w.heap.size w wr) := hbel
      clear d1 d2 d3 d4 d5 d6 hbel
      go_wp2_with fail
      go_region_with (go_at_call 49; refine (HE.out _).mono ?_; rintro e w1 ⟨rfl, hb1⟩)
      all_goals (have HB1 : Hid (Below w.heap.size w w1) := HB.out.drew.trans (hb1.mono HB.out.size))
      all_goals clear hb1
      all_goals go_wp2
      all_goals go_roundw
      all_goals first
        | exact ⟨k + 1, by omega, by go_num, HB1.out⟩
        | (simp [intOf]; omega)
    · have e : k = l.length := by omega
      subst e
      go_wp2
      go_ret
      exact ⟨rfl, hbel⟩

theorem infoFile : (Tryd.prog.info? 38).map (fun i => (i.zero, i.size, i.bytes)) = some (some (.agg #[.string ByteArray.empty, .int .i64 0, .string ByteArray.empty]), 3, 40) := by kernel_rfl
theorem underFiles : Tryd.prog.underlying 22 = some (.slice 38) := by kernel_rfl

theorem make_files (n : Nat) (hn : n ≤ 2000000) (w : World) :
    ∃ W1, (Instr.makeSlice 22 (.int .i64 (n : Int)) (.int .i64 (n : Int))).run Tryd.prog w = .ok (.slice (some ⟨w.heap.size, 0, none⟩) n n) W1 ∧ FilesAt W1 w.heap.size 0 (List.replicate n Fl.zero) ∧ Below w.heap.size w W1 ∧ W1.heap.size = w.heap.size + 1 := by
  obtain ⟨i, hi, hz, hs, hb⟩ := info_parts infoFile
  have hr := run_make (P := Tryd.prog) w 22 38 i _ underFiles hi hz .i64 .i64 (n : Int) (n : Int) (by omega) (by omega) (by rw [hb]; omega) (by omega)
  simp only [Int.toNat_natCast] at hr
  refine ⟨_, hr, fun j hj => ?_, (Below.refl _ _).alloc (Nat.le_refl _) _, by simp⟩
  have hjn : j < n := by simpa using hj
  rw [hs]
  have e0 : (Value.agg #[.string ByteArray.empty, .int .i64 0, .string ByteArray.empty]).cells = #[.string ByteArray.empty, .int .i64 0, .string ByteArray.empty] := rfl
  rw [e0]
  refine ⟨⟨?_, ?_, ?_⟩, by simp, by simp, by simp⟩
  · have h1 : (j * 3) % 3 = 0 := by omega
    simp [madeCells, show j * 3 < n * 3 by omega, h1, Fl.zero]
  · have h1 : (j * 3 + 1) % 3 = 1 := by omega
    simp [madeCells, show j * 3 + 1 < n * 3 by omega, h1, Fl.zero]
  · have h1 : (j * 3 + 2) % 3 = 2 := by omega
    simp [madeCells, show j * 3 + 2 < n * 3 by omega, h1, Fl.zero]

/-- A list of files of which the first k are laid. -/
def fcopy (l : List Fl) (k : Nat) : List Fl := l.take k ++ List.replicate (l.length - k) Fl.zero
theorem length_fcopy (l : List Fl) (k : Nat) (h : k ≤ l.length) : (fcopy l k).length = l.length := by simp [fcopy]; omega
theorem fcopy_start (l : List Fl) : fcopy l 0 = List.replicate l.length Fl.zero := by simp [fcopy]
theorem fcopy_end (l : List Fl) : fcopy l l.length = l := by simp [fcopy]
theorem fcopy_set (l : List Fl) (k : Nat) (hk : k < l.length) : (fcopy l k).set k l[k] = fcopy l (k + 1) := by
  have hl : (l.take k).length = k := by simp; omega
  unfold fcopy
  rw [List.set_append_right _ _ (by omega), hl, Nat.sub_self, show l.length - k = (l.length - (k + 1)) + 1 by omega, List.replicate_succ, List.set_cons_zero, List.take_succ_eq_append_getElem hk]
  simp only [List.append_assoc, List.singleton_append]

/-- how many bytes the files hold -/
def wtF (l : List Fl) : Nat := (l.map fun f => f.p.size + f.d.size).sum
theorem wtF_take (l : List Fl) (k : Nat) (h : k < l.length) : wtF (l.take (k + 1)) = wtF (l.take k) + (l[k].p.size + l[k].d.size) := by
  unfold wtF; rw [List.take_succ_eq_append_getElem h, List.map_append, List.sum_append]; simp only [List.map_cons, List.map_nil, List.sum_cons, List.sum_nil, Nat.add_zero]
theorem wtF_le (l : List Fl) (k : Nat) : wtF (l.take k) ≤ wtF l := by
  have e : wtF l = wtF (l.take k) + wtF (l.drop k) := by
    unfold wtF
    rw [← List.sum_append, ← List.map_append, List.take_append_drop]
  omega
end Go.Proofs.YtjgkekgieodhnaaDoor.Tre
