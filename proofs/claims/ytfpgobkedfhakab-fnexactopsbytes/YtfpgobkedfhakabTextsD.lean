/- Laws that the proof rests on, put together: What the program's 'together' answers, of any texts, empty ones and none too. What the model's look at a tree answers. What two texts have alike at their ends, and the steps from the one to the other: lists alone. What the program's looks at two texts answer. What the model's StepsOf answers. Step, and lists of them, that came in, opened. -/
import Derived.Test.YtfpgobkedfhakabTextsB
import Derived.Test.YtfpgobkedfhakabAppMany
import Derived.Test.YtfpgobkedfhakabSpecPath
import Derived.Deep.RegionHeld3
import Derived.Test.YtfpgobkedfhakabTextsA
import Derived.Test.YtfpgobkedfhakabHarnStep
import Derived.BigQuiet
import Derived.Deep.QuietTactic
import Derived.Deep.RegionWith
import Derived.Deep.Cut
import Derived.Deep.DeepCutAuto
import Derived.Deep.Slices
/- What the program's 'together' answers, of any texts, empty ones and none too. -/
namespace Go.Proofs.Ytfpgobkedfhakab.Frm
open Go.RowKit Go.Proofs.Ytfpgobkedfhakab.Mem Go.Proofs.Ytfpgobkedfhakab.Gf Go.Proofs.Ytfpgobkedfhakab.Harn

/-- all texts, one behind the other -/
def catL : List ByteArray → List UInt8
  | [] => []
  | t :: l => t.data.toList ++ catL l
theorem catL_app (a b : List ByteArray) : catL (a ++ b) = catL a ++ catL b := by
  induction a with
  | nil => rfl
  | cons t a ih => simp [catL, ih]
theorem catL_one (l : List ByteArray) (k : Nat) (h : k < l.length) : catL (l.take (k + 1)) = catL (l.take k) ++ l[k].data.toList := by
  rw [List.take_succ_eq_append_getElem h, catL_app]; simp [catL]
theorem catL_le (l : List ByteArray) (k : Nat) : (catL (l.take k)).length ≤ (catL l).length := by
  have h : catL l = catL (l.take k) ++ catL (l.drop k) := by rw [← catL_app, List.take_append_drop]
  rw [h, List.length_append]; omega
theorem wp_app_textE {w : World} {ops : Array Oper} {rest : List Oper} {o : Oper} {a : Act} {Q : Exit → Act → World → Prop} (hgd : o.guard = none) (sl x : Operand)
    (ho : o.op = .call { callee := .builtin .append, args := #[sl, x], argTypes := #[52, 9] }) (base : Nat) (v : Value) (l : List UInt8) (s : ByteArray) (hs : a.eval sl = v) (hx : a.eval x = .string s)
    (hown : OwnsB w base 5 v l) (hn : l.length + s.size ≤ 1000000) (hbase : base ≤ w.heap.size)
    (h : ∀ v' w', OwnsB w' base 5 v' (l ++ s.data.toList) → Below base w w' → w.heap.size ≤ w'.heap.size → wpList Try.prog ops Q rest (a.put o.dst v') w') : wpList Try.prog ops Q (o :: rest) a w := by
  obtain ⟨i, hi, hz0, hz1, hz2⟩ := info_parts Disk.infoB
  refine Lib.wpList_append_own_string w hgd sl x _ _ ho base 5 i Disk.underB Disk.underTx hi hz0 hz1 hz2 v l.length (Lib.byteCells l) hs hown s hx (by unfold maxLen; omega) (by omega) hbase ?_
  intro v' w' h1 h2 _
  refine h v' w' ?_ ?_ h2.size
  · unfold OwnsB
    have e1 : (l ++ s.data.toList).length = l.length + s.size := by rw [List.length_append]; rfl
    have e2 : Lib.byteCells (l ++ s.data.toList) = Lib.byteCells l ++ Lib.strCells s := by simp [Lib.byteCells, Lib.strCells]
    rw [e1, e2]
    exact h1
  · exact (Below.refl base w).grown h2 hbase (fun k hk => (World.ownsRow.lt hown k hk).1)
theorem nil_text (W : World) : (convert 52 9 (.slice none 0 0)).run Try.prog W = .ok (.string ⟨#[]⟩) W := by
  rw [run_convert_bytes_string W 52 9 5 none 0 0 Disk.underB Disk.underU8 Disk.underTx]
  rfl
theorem ownB_textE {W : World} {base : Nat} {v : Value} {l : List UInt8} (h : OwnsB W base 5 v l) : (convert 52 9 v).run Try.prog W = .ok (.string ⟨l.toArray⟩) W := by
  by_cases hv : v = .slice none 0 0
  · subst hv
    have : l = [] := by
      rcases h.2 with ⟨_, h0⟩ | ⟨g, cap, cur, e, _⟩
      · exact List.length_eq_zero_iff.1 h0
      · cases e
    subst this
    exact nil_text W
  · exact Disk.ownB_text h hv
set_option maxRecDepth 100000 in
set_option maxHeartbeats 1000000 in
theorem together_all (v : Value) (ls : List ByteArray) (w : World) (h : Strs w v ls) (hs : (catL ls).length ≤ 100000) (hl : ls.length ≤ 100000) :
    Calls Try.prog 16 #[v] w fun e w' => e = .returned (.string ⟨(catL ls).toArray⟩) ∧ Below w.heap.size w w' := by
  obtain ⟨a, cap, rfl, hc⟩ := h
  have HC : Hid (∀ j (h : j < ls.length), ∃ b o, a = some ⟨b, o, none⟩ ∧ w.cell? ⟨b, o + j, none⟩ = some (.string ls[j])) := hc
  clear hc
  go_enter Try.func16, Try.ntmps16
  go_wp2
  go_loopw [3, 8] (fun v i wr => ∃ k : Nat, k ≤ ls.length ∧ i = .int .i64 k ∧ OwnsB wr w.heap.size 5 v (catL (ls.take k)) ∧ Below w.heap.size w wr) (fun _ i _ => ls.length - (intOf i).toNat)
  case atStart => exact ⟨0, by omega, rfl, World.ownsRow_nil _ _ _ _, Below.refl _ _⟩
  case round =>
    obtain ⟨k, hk, rfl, hown, hbel⟩ := hrel
    have HOWN : Hid (OwnsB wr w.heap.size 5 u3 (catL (ls.take k))) := hown
    have HBEL : Hid (Below w.heap.size w wr) := hbel
    have hz := hbel.size
    clear hown
    by_cases hlt : k < ls.length
    · obtain ⟨b, o, rfl, d1⟩ := HC.out k hlt
      have c1 : wr.cell? ⟨b, o + k, none⟩ = _ := (hbel.cell (World.block_lt_of_cell? w _ d1)).trans d1
      have HE : Hid _ := catL_one ls k hlt
      have HL : Hid ((catL (ls.take k)).length + ls[k].size ≤ 1000000) := by
        have e1 := catL_le ls (k + 1)
        rw [HE.out, List.length_append] at e1
        have e2 : ls[k].data.toList.length = ls[k].size := rfl
        show _ ≤ _
        omega
      have p1 : (k : Int) < (ls.length : Int) := by omega
      generalize ls[k] = t at *
      generalize catL (ls.take k) = l at *
      clear d1 hbel
      go_wp2_with (at_builtin; refine wp_app_textE (by rfl) _ _ (by rfl) w.heap.size u3 l t (by rfl) (by rfl) HOWN.out HL.out hz ?_; intro v' w' ho1 hb1 hz1; have HO1 : Hid _ := ho1; have HB1 : Hid _ := hb1; clear ho1 hb1)
      go_roundw
      case rel => exact ⟨k + 1, by omega, by go_num, by rw [HE.out]; exact HO1.out, HBEL.out.trans HB1.out⟩
      case measure => simp [intOf]; omega
    · obtain rfl : k = ls.length := by omega
      have hcv := ownB_textE HOWN.out
      rw [List.take_length] at hcv
      generalize hzz : (⟨(catL ls).toArray⟩ : ByteArray) = y at *
      have HZ : Hid ((⟨(catL ls).toArray⟩ : ByteArray) = y) := hzz
      clear hbel hzz
      go_wp2
      go_ret
      exact ⟨by rw [HZ.out]; rfl, HBEL.out⟩
theorem run_lits {w : World} (ty : TypeId) (base b m : Nat) (v : Value) (ls ts : List ByteArray) (hm : m = ts.length) (h : OwnS w base v ls) (hbase : base ≤ w.heap.size) (hrow : HasRow w b (ts.map Value.string) 9) (h0 : 0 < ts.length) (hn : ls.length + ts.length ≤ 1000000) :
    ∃ g c w', (Builtin.append_ #[39, 39] ty #[v, .slice (some ⟨b, 0, none⟩) m m]).run Try.prog w = .ok (.slice (some ⟨g, 0, none⟩) (ls.length + m) c) w' ∧ OwnS w' base (.slice (some ⟨g, 0, none⟩) (ls.length + m) c) (ls ++ ts) ∧ w.grownBy w' v.ownBlock ∧ g < w'.heap.size := by
  subst hm
  obtain ⟨i, hi0, hz0, hz1, hz2⟩ := info_parts infoStr
  have hl : (ls.map Value.string).length = ls.length := by simp
  have ht : (ts.map Value.string).length = ts.length := by simp
  obtain ⟨g', cap, w', hr, hown, hgr, hat, hlt⟩ := run_append_lies (P := Try.prog) w 39 ty base 9 i (.string ByteArray.empty) 1 16 underStrs hi0 hz0 hz1 hz2 rfl (by omega) v (ls.map Value.string).length (ls.map Value.string) h ⟨b, 0, none⟩ ts.length ts.length (ts.map Value.string) (by rw [ht]; omega) (fun j u hu => by
    have hadd : (⟨b, 0, none⟩ : Addr).add j = ⟨b, j, none⟩ := by unfold Addr.add; split <;> simp_all
    rw [hadd, Mem.cell_of_row hrow j, hu]) (fun u hu => by obtain ⟨t, _, rfl⟩ := List.mem_map.1 hu; rfl) h0 (by unfold maxLen; rw [hl]; omega) (by rw [hl]; omega) hbase w.heap.size rfl
  rw [hl] at hr hown
  exact ⟨g', cap, w', hr, by unfold OwnS OwnV; rw [List.map_append, List.length_append, hl, ht]; exact hown, hgr, hlt⟩
/-- 'append(v, "..", "..")' in a drawn region -/
theorem step_lits {w : World} {ops : Array Oper} {o : Oper} {a : Act} {K : Act → World → Prop} {Q : Exit → Act → World → Prop} {E : Prop} (hgd : o.guard = none) (s x : Operand)
    (ho : o.op = .call { callee := .builtin .append, args := #[s, x], argTypes := #[39, 39] }) (base b m : Nat) (v : Value) (ls ts : List ByteArray) (hs : a.eval s = v) (hx : a.eval x = .slice (some ⟨b, 0, none⟩) m m) (hm : m = ts.length)
    (h : OwnS w base v ls) (hbase : base ≤ w.heap.size) (hrow : HasRow w b (ts.map Value.string) 9) (h0 : 0 < ts.length) (hn : ls.length + ts.length ≤ 1000000)
    (hK : ∀ g c w', OwnS w' base (.slice (some ⟨g, 0, none⟩) (ls.length + m) c) (ls ++ ts) → w.grownBy w' v.ownBlock → K (a.put o.dst (.slice (some ⟨g, 0, none⟩) (ls.length + m) c)) w') :
    if Region.wanted o (yielded ops a.tmps) = true then Oper.wp Try.prog o a w K Q else E := by
  obtain ⟨g, c, w', hr, h1, h2, _⟩ := run_lits o.type base b m v ls ts hm h hbase hrow h0 hn
  exact step_app hgd s x _ ho _ _ _ w' hs hx hr (hK g c w' h1 h2)
theorem wp_lits {w : World} {ops : Array Oper} {rest : List Oper} {o : Oper} {a : Act} {Q : Exit → Act → World → Prop} (hgd : o.guard = none) (s x : Operand)
    (ho : o.op = .call { callee := .builtin .append, args := #[s, x], argTypes := #[39, 39] }) (base b m : Nat) (v : Value) (ls ts : List ByteArray) (hs : a.eval s = v) (hx : a.eval x = .slice (some ⟨b, 0, none⟩) m m) (hm : m = ts.length)
    (h : OwnS w base v ls) (hbase : base ≤ w.heap.size) (hrow : HasRow w b (ts.map Value.string) 9) (h0 : 0 < ts.length) (hn : ls.length + ts.length ≤ 1000000)
    (hK : ∀ g c w', OwnS w' base (.slice (some ⟨g, 0, none⟩) (ls.length + m) c) (ls ++ ts) → w.grownBy w' v.ownBlock → wpList Try.prog ops Q rest (a.put o.dst (.slice (some ⟨g, 0, none⟩) (ls.length + m) c)) w') : wpList Try.prog ops Q (o :: rest) a w := by
  obtain ⟨g, c, w', hr, h1, h2, _⟩ := run_lits o.type base b m v ls ts hm h hbase hrow h0 hn
  exact wp_app1 hgd s x _ ho _ _ _ w' hs hx hr (hK g c w' h1 h2)
end Go.Proofs.Ytfpgobkedfhakab.Frm

/- What the model's look at a tree answers. -/
namespace Go.Proofs.Ytfpgobkedfhakab.Tre
open Go.RowKit Go.Proofs.Ytfpgobkedfhakab.Mem Go.Proofs.Ytfpgobkedfhakab.Gf Go.Proofs.Ytfpgobkedfhakab.Harn Go.Proofs.Ytfpgobkedfhakab.Mark

theorem ahead_no {a b : ByteArray} (h : ¬ a.size < b.size) : ahead a b = false := by unfold ahead; simp [h]
theorem ahead_at {a b : ByteArray} (h : a.size < b.size) : ahead a b = ((b.extract 0 a.size).toList == a.toList && ((((b[a.size]'h).toNat : Nat) : Int) == 47)) := by
  have e1 : b.data.toList.take (a.size + 1) = b.data.toList.take a.size ++ [b[a.size]'h] := List.take_succ_eq_append_getElem h
  have e2 : (b.extract 0 a.size).toList = b.data.toList.take a.size := by rw [Lib.toList_data]; simp
  unfold ahead
  rw [decide_eq_true h, Bool.true_and, e1, e2, Lib.toList_data]
  rw [Bool.eq_iff_iff]
  simp only [decide_eq_true_eq, Bool.and_eq_true, beq_iff_eq]
  constructor
  · intro he
    have := List.append_inj' he rfl
    refine ⟨this.1, ?_⟩
    have h2 : b[a.size]'h = 47 := by simpa using this.2
    rw [h2]; rfl
  · rintro ⟨h1, h2⟩
    rw [h1]
    congr 2
    apply UInt8.toNat_inj.1
    exact Int.ofNat.inj h2
theorem geq_run (u x : ByteArray) : ∀ W, (binOp BinOp.geq 9 (Value.string u) (Value.string x)).run Try.prog W = .ok (.bool (!ltT u x)) W := fun W => by
  simp [binOp, Op.stringOp, Lib.toList_data, ltT]
theorem lss_run (u x : ByteArray) : ∀ W, (binOp BinOp.lss 9 (Value.string u) (Value.string x)).run Try.prog W = .ok (.bool (ltT u x)) W := fun W => by
  simp [binOp, Op.stringOp, Lib.toList_data, ltT]
theorem leq_run (u x : ByteArray) : ∀ W, (binOp BinOp.leq 9 (Value.string u) (Value.string x)).run Try.prog W = .ok (.bool (!ltT x u)) W := fun W => by
  rw [← leq_total]
  simp [binOp, Op.stringOp, Lib.toList_data]
end Go.Proofs.Ytfpgobkedfhakab.Tre

/- What two texts have alike at their ends, and the steps from the one to the other: lists alone. -/
namespace Go.Proofs.Ytfpgobkedfhakab.Del
open Go.RowKit

/-- how many bytes both have alike at the beginning, from place k on -/
def preGo (a b : ByteArray) (k : Nat) : Nat := if h : k < a.size ∧ k < b.size then (if a[k]'h.1 = b[k]'h.2 then preGo a b (k + 1) else k) else k
termination_by a.size - k
theorem pre_hit {a b : ByteArray} {k : Nat} (h1 : k < a.size) (h2 : k < b.size) (h : a[k] = b[k]) : preGo a b k = preGo a b (k + 1) := by rw [preGo, dif_pos ⟨h1, h2⟩, if_pos h]
theorem pre_miss {a b : ByteArray} {k : Nat} (h1 : k < a.size) (h2 : k < b.size) (h : ¬ a[k] = b[k]) : preGo a b k = k := by rw [preGo, dif_pos ⟨h1, h2⟩, if_neg h]
theorem pre_end {a b : ByteArray} {k : Nat} (h : ¬ (k < a.size ∧ k < b.size)) : preGo a b k = k := by rw [preGo, dif_neg h]
theorem pre_le (a b : ByteArray) : ∀ n k, a.size - k = n → k ≤ a.size → k ≤ b.size → preGo a b k ≤ a.size ∧ preGo a b k ≤ b.size
  | 0, k, hn, h1, h2 => by rw [pre_end (by omega)]; omega
  | n + 1, k, hn, h1, h2 => by
    by_cases hb : k < b.size
    · have ha : k < a.size := by omega
      by_cases he : a[k] = b[k]
      · rw [pre_hit ha hb he]; exact pre_le a b n (k + 1) (by omega) (by omega) (by omega)
      · rw [pre_miss ha hb he]; omega
    · rw [pre_end (by omega)]; omega
/-- how many bytes both have alike at the end, behind place p -/
def sufGo (a b : ByteArray) (p k : Nat) : Nat := if h : k < a.size - p ∧ k < b.size - p then (if a[a.size - 1 - k]'(by omega) = b[b.size - 1 - k]'(by omega) then sufGo a b p (k + 1) else k) else k
termination_by a.size - p - k
theorem suf_hit {a b : ByteArray} {p k : Nat} (h1 : k < a.size - p) (h2 : k < b.size - p) (h : a[a.size - 1 - k]'(by omega) = b[b.size - 1 - k]'(by omega)) : sufGo a b p k = sufGo a b p (k + 1) := by rw [sufGo, dif_pos ⟨h1, h2⟩, if_pos h]
theorem suf_miss {a b : ByteArray} {p k : Nat} (h1 : k < a.size - p) (h2 : k < b.size - p) (h : ¬ a[a.size - 1 - k]'(by omega) = b[b.size - 1 - k]'(by omega)) : sufGo a b p k = k := by rw [sufGo, dif_pos ⟨h1, h2⟩, if_neg h]
theorem suf_end {a b : ByteArray} {p k : Nat} (h : ¬ (k < a.size - p ∧ k < b.size - p)) : sufGo a b p k = k := by rw [sufGo, dif_neg h]
theorem suf_le (a b : ByteArray) (p : Nat) : ∀ n k, a.size - p - k = n → k ≤ a.size - p → k ≤ b.size - p → sufGo a b p k ≤ a.size - p ∧ sufGo a b p k ≤ b.size - p
  | 0, k, hn, h1, h2 => by rw [suf_end (by omega)]; omega
  | n + 1, k, hn, h1, h2 => by
    by_cases hb : k < b.size - p
    · have ha : k < a.size - p := by omega
      by_cases he : a[a.size - 1 - k]'(by omega) = b[b.size - 1 - k]'(by omega)
      · rw [suf_hit ha hb he]; exact suf_le a b p n (k + 1) (by omega) (by omega) (by omega)
      · rw [suf_miss ha hb he]; omega
    · rw [suf_end (by omega)]; omega
theorem size_from (a : ByteArray) (p : Nat) : (a.extract p a.size).size = a.size - p := by simp
theorem get_from (a : ByteArray) (p i : Nat) (h : i < (a.extract p a.size).size) : (a.extract p a.size)[i] = a[p + i]'(by rw [size_from] at h; omega) := by simp [ByteArray.getElem_eq_getElem_data]
/-- the same, of the pieces behind p -/
theorem suf_from (a b : ByteArray) (p : Nat) : ∀ n k, a.size - p - k = n → sufGo (a.extract p a.size) (b.extract p b.size) 0 k = sufGo a b p k
  | 0, k, hn => by rw [suf_end (by rw [size_from]; omega), suf_end (by omega)]
  | n + 1, k, hn => by
    by_cases hb : k < b.size - p
    · have ha : k < a.size - p := by omega
      have ha2 : k < (a.extract p a.size).size - 0 := by rw [size_from]; omega
      have hb2 : k < (b.extract p b.size).size - 0 := by rw [size_from]; omega
      have e1 : (a.extract p a.size)[(a.extract p a.size).size - 1 - k]'(by omega) = a[a.size - 1 - k]'(by omega) := by
        rw [get_from]; congr 1; rw [size_from]; omega
      have e2 : (b.extract p b.size)[(b.extract p b.size).size - 1 - k]'(by omega) = b[b.size - 1 - k]'(by omega) := by
        rw [get_from]; congr 1; rw [size_from]; omega
      by_cases he : a[a.size - 1 - k]'(by omega) = b[b.size - 1 - k]'(by omega)
      · rw [suf_hit ha hb he, suf_hit ha2 hb2 (by rw [e1, e2]; exact he)]; exact suf_from a b p n (k + 1) (by omega)
      · rw [suf_miss ha hb he, suf_miss ha2 hb2 (by rw [e1, e2]; exact he)]
    · rw [suf_end (by rw [size_from, size_from]; omega), suf_end (by omega)]
def preN (a b : ByteArray) : Nat := preGo a b 0
def sufN (a b : ByteArray) : Nat := sufGo a b (preN a b) 0
theorem preN_le (a b : ByteArray) : preN a b ≤ a.size ∧ preN a b ≤ b.size := pre_le a b _ 0 rfl (by omega) (by omega)
theorem sufN_le (a b : ByteArray) : preN a b + sufN a b ≤ a.size ∧ preN a b + sufN a b ≤ b.size := by
  have h1 := preN_le a b
  have h2 := suf_le a b (preN a b) _ 0 rfl (by omega) (by omega)
  unfold sufN
  omega
/-- the steps from a to b, of which p bytes are alike ahead and z behind -/
def stepsL (a b : ByteArray) (p z : Nat) : List Pc :=
  (if 0 < p then [⟨0, (p : Nat), ByteArray.empty⟩] else []) ++ (if p < b.size - z then [⟨0, 0, b.extract p (b.size - z)⟩] else []) ++ (if 0 < z then [⟨((a.size - z : Nat) : Int), (z : Nat), ByteArray.empty⟩] else [])
def stepsN (a b : ByteArray) : List Pc := stepsL a b (preN a b) (sufN a b)
/-- what StepsOf tells -/
def stepsO (a b : ByteArray) : List Pc := if 80 < a.size ∨ 80 < b.size then [] else stepsN a b
theorem stepsN_len (a b : ByteArray) : (stepsN a b).length ≤ 3 := by
  unfold stepsN stepsL
  simp only [List.length_append]
  split <;> split <;> split <;> simp
theorem stepsO_len (a b : ByteArray) : (stepsO a b).length ≤ 3 := by
  unfold stepsO; split
  · simp
  · exact stepsN_len a b
end Go.Proofs.Ytfpgobkedfhakab.Del

/- What the program's looks at two texts answer. -/
namespace Go.Proofs.Ytfpgobkedfhakab.Del
open Go.RowKit Go.Proofs.Ytfpgobkedfhakab.Mem Go.Proofs.Ytfpgobkedfhakab.Mark Go.Proofs.Ytfpgobkedfhakab.Harn Go.Proofs.Ytfpgobkedfhakab.Rws

theorem byte_eq {x y : UInt8} : (((x.toNat : Nat) : Int) == ((y.toNat : Nat) : Int)) = decide (x = y) := by
  rw [Bool.eq_iff_iff]
  simp only [beq_iff_eq, decide_eq_true_eq]
  constructor
  · intro h; exact UInt8.toNat_inj.1 (Int.ofNat.inj h)
  · rintro rfl; rfl
theorem ret_int {k : IntKind} {a b : Int} (h : a = b) : Ending.returned (.int k a) = .returned (.int k b) := by rw [h]
theorem bel_d {w wr : World} (h : Below w.heap.size w wr) (n : Nat) : Below w.heap.size w (wr.drewN n) := Sha.bel_drewN h n
end Go.Proofs.Ytfpgobkedfhakab.Del

/- What the model's StepsOf answers. -/
namespace Go.Proofs.Ytfpgobkedfhakab.Del
open Go.RowKit Go.Proofs.Ytfpgobkedfhakab.Mem Go.Proofs.Ytfpgobkedfhakab.Mark Go.Proofs.Ytfpgobkedfhakab.Harn Go.Proofs.Ytfpgobkedfhakab.Rws

def preB (a b : ByteArray) (k : Nat) : Bool := if h : k < a.size ∧ k < b.size then decide (a[k]'h.1 = b[k]'h.2) else false
theorem preB_yes {a b : ByteArray} {k : Nat} (h : preB a b k = true) : k < a.size ∧ k < b.size ∧ preGo a b k = preGo a b (k + 1) := by
  unfold preB at h
  split at h
  · rename_i hk; exact ⟨hk.1, hk.2, pre_hit hk.1 hk.2 (by simpa using h)⟩
  · cases h
theorem preB_no {a b : ByteArray} {k : Nat} (h : preB a b k = false) : preGo a b k = k := by
  unfold preB at h
  split at h
  · rename_i hk; exact pre_miss hk.1 hk.2 (by simpa using h)
  · rename_i hk; exact pre_end hk
def sufB (a b : ByteArray) (p k : Nat) : Bool := if h : k < a.size - p ∧ k < b.size - p then decide (a[a.size - 1 - k]'(by omega) = b[b.size - 1 - k]'(by omega)) else false
theorem sufB_yes {a b : ByteArray} {p k : Nat} (h : sufB a b p k = true) : k < a.size - p ∧ k < b.size - p ∧ sufGo a b p k = sufGo a b p (k + 1) := by
  unfold sufB at h
  split at h
  · rename_i hk; exact ⟨hk.1, hk.2, suf_hit hk.1 hk.2 (by simpa using h)⟩
  · cases h
theorem sufB_no {a b : ByteArray} {p k : Nat} (h : sufB a b p k = false) : sufGo a b p k = k := by
  unfold sufB at h
  split at h
  · rename_i hk; exact suf_miss hk.1 hk.2 (by simpa using h)
  · rename_i hk; exact suf_end hk
/-- the list v of steps, in a block of its own -/
def OwnP (W : World) (base : Nat) (v : Value) (l : List Pc) : Prop := OwnR W base 42 3 v (l.map Pc.row)
theorem empty_lit : ByteArray.empty = ⟨#[]⟩ := rfl
theorem slice_text (tx : ByteArray) (a b : Nat) (ha : a ≤ b) (hb : b ≤ tx.size) (i j : Int) (hi : i = a) (hj : j = b) (W : World) : (Instr.slice 9 (.string tx) (some (.int .i64 i)) (some (.int .i64 j)) none).run Try.prog W = .ok (.string (tx.extract a b)) W := by
  subst hi hj
  simp [Instr.slice, Instr.sliceBounds, run_underlying Join.underS, go_sem, ha, hb]
end Go.Proofs.Ytfpgobkedfhakab.Del

/- Step, and lists of them, that came in, opened. -/
namespace Go.Proofs.Ytfpgobkedfhakab.Del
open Go.ChangeShapes Go.WideShapes Go.ChangeAt Go.RowKit Go.Deep Go.Proofs.Ytfpgobkedfhakab.Harn
variable {H : Type} {enc : TypeId × Value → H}

theorem listN {α : Type} {xs : List α} (h : xs.length = 3) : ∃ c0 c1 c2, xs = [c0, c1, c2] := by
  match xs, h with
  | [c0, c1, c2], _ => exact ⟨c0, c1, c2, rfl⟩
def okIn (x : Pc) : Prop := (-9223372036854775808 ≤ x.f ∧ x.f ≤ 9223372036854775807) ∧ (-9223372036854775808 ≤ x.m ∧ x.m ≤ 9223372036854775807) ∧ x.t.size ≤ maxLen
set_option maxRecDepth 100000 in
theorem open_cells {W : World} {sp : Nat → Bool} {fuel : Nat} {cs : List Value} {x : DataW H × List MemPlace} (hl : cs.length = 3) (h : DataW.trod enc Try.prog W 0 sp true fuel 56 cs = some x) :
    ∃ f : Pc, cs = f.row ∧ okIn f := by
  have k1 : Try.prog.cellsOf 2 = 1 := by kernel_rfl
  have k3 : Try.prog.cellsOf 9 = 1 := by kernel_rfl
  obtain ⟨c0, c1, c2, rfl⟩ := listN hl
  obtain ⟨xs, n, _, _, _, hlen, hf⟩ := DataW.trod_struct Try.underlying56 h
  obtain ⟨y0, y1, y2, rfl⟩ := listN (hlen.trans rfl)
  have h0 : DataW.trod enc Try.prog W 0 sp true n 2 (([c0, c1, c2].drop 0).take (Try.prog.cellsOf 2)) = some y0 := hf 0 _ rfl
  have h1 : DataW.trod enc Try.prog W 0 sp true n 2 (([c0, c1, c2].drop 1).take (Try.prog.cellsOf 2)) = some y1 := hf 1 _ rfl
  have h2 : DataW.trod enc Try.prog W 0 sp true n 9 (([c0, c1, c2].drop 2).take (Try.prog.cellsOf 9)) = some y2 := hf 2 _ rfl
  rw [k1] at h0
  rw [k1] at h1
  rw [k3] at h2
  obtain ⟨v0, e0, _, b0⟩ := DataW.trod_int Try.underlying2 h0
  obtain ⟨v1, e1, _, b1⟩ := DataW.trod_int Try.underlying2 h1
  obtain ⟨v2, e2, _, b2⟩ := DataW.trod_string Try.underlying9 h2
  simp at e0 e1 e2
  subst e0 e1 e2
  exact ⟨⟨v0, v1, v2⟩, rfl, ⟨(bounds_i64 b0).1, (bounds_i64 b0).2⟩, ⟨(bounds_i64 b1).1, (bounds_i64 b1).2⟩, b2⟩
set_option maxRecDepth 100000 in
theorem open_list_at {W : World} {sp : Nat → Bool} {fuel : Nat} {v : Value} {x : DataW H × List MemPlace}
    (h : DataW.trod enc Try.prog W 0 sp true fuel 30 [v] = some x) : ∃ l, Ls W v l ∧ l.length ≤ maxLen ∧ ∀ y ∈ l, okIn y := by
  have ce : Try.prog.cellsOf 56 = 3 := by kernel_rfl
  rcases open_slice Try.underlying30 h with ⟨hcs, _⟩ | ⟨a, len, cap, m, n, D, Pl, hcs, hb, hl, hm, hmm, _, hx⟩
  · simp at hcs
    exact ⟨[], ⟨none, 0, hcs, fun j hj => by simp at hj⟩, by simp, by simp⟩
  · simp at hcs
    have hlm : len ≤ m := by rw [hmm]; split <;> omega
    have each : ∀ i, i < len → ∃ f : Pc, (∀ q (_ : q < 3), ∃ u, f.row[q]? = some u ∧ W.cell? (a.add (i * 3 + q)) = some u) ∧ okIn f := by
      intro i hi
      obtain ⟨cs', h1, h2⟩ := hx i (by omega)
      rw [ce] at h1
      obtain ⟨_, hlen, hcell⟩ := World.cells?_some h1
      obtain ⟨f, rfl, hf⟩ := open_cells hlen h2
      refine ⟨f, fun q hq => ?_, hf⟩
      have := hcell q hq
      rw [add_add] at this
      have e := List.getElem?_eq_getElem (l := f.row) (i := q) (by rw [hlen]; exact hq)
      exact ⟨_, e, this.trans e⟩
    have : Inhabited Pc := ⟨Pc.zero⟩
    obtain ⟨g, hg⟩ := choose_lt each
    refine ⟨(List.range len).map g, ⟨some a, cap, by simpa using hcs, fun j hj => ?_⟩, by simp; omega, fun y hy => ?_⟩
    · have hj2 : j < len := by simpa using hj
      obtain ⟨u0, _, hu0⟩ := (hg 0 (by omega)).1 0 (by omega)
      obtain ⟨a1, a2⟩ := at_none hu0
      refine ⟨a.block, a.off, by rw [← a1], fun q hq => ?_⟩
      obtain ⟨u, h1, h2⟩ := (hg j hj2).1 q hq
      refine ⟨u, by simpa using h1, ?_⟩
      rw [Nat.add_assoc, ← a2]; exact h2
    · simp only [List.mem_map, List.mem_range] at hy
      obtain ⟨i, hi, rfl⟩ := hy
      exact (hg i hi).2
set_option maxRecDepth 100000 in
theorem open_list {W : World} {b0 : Nat} {v : Value} {d : DataW H} {ps : List MemPlace} (hv : Value.okWide Try.prog W .any b0 30 v) (h : DataW.Trod enc Try.prog W 0 (fun _ => true) true 30 v d ps) :
    ∃ l, Ls W v l ∧ l.length ≤ maxLen ∧ ∀ y ∈ l, okIn y := by
  obtain ⟨a, len, cap, rfl⟩ := okWide_slice Try.underlying30 hv
  obtain ⟨fuel, hf⟩ := h
  exact open_list_at hf
set_option maxRecDepth 100000 in
theorem open_one {W : World} {b0 : Nat} {v : Value} {d : DataW H} {ps : List MemPlace} (hv : Value.okWide Try.prog W .any b0 56 v) (h : DataW.Trod enc Try.prog W 0 (fun _ => true) true 56 v d ps) :
    ∃ f : Pc, v = f.val ∧ okIn f := by
  obtain ⟨cs, rfl, hsz⟩ := okWide_struct Try.underlying56 hv
  obtain ⟨fuel, hf⟩ := h
  obtain ⟨f, e, hf⟩ := open_cells (cs := cs.toList) (by simpa using hsz.trans (by kernel_rfl)) hf
  refine ⟨f, ?_, hf⟩
  unfold Pc.val
  congr 1
  exact Array.toList_inj.1 e
end Go.Proofs.Ytfpgobkedfhakab.Del
