/- What the program's 'together' answers, of any texts, empty ones and none too. -/
import Derived.Test.YtfpgobkedfhakaaAppText
import Derived.Test.YtfpgobkedfhakaaAppMany
import Derived.Test.YtfpgobkedfhakaaJoin
namespace Go.Proofs.Ytfpgobkedfhakaa.Frm
open Go.RowKit Go.Proofs.Ytfpgobkedfhakaa.Mem Go.Proofs.Ytfpgobkedfhakaa.Gf Go.Proofs.Ytfpgobkedfhakaa.Harn

/-- all texts, one behind the other -/
def catL : List ByteArray → List UInt8
  | [] => []
  | t :: l => t.data.toList ++ catL l
theorem catL_app (a b : List ByteArray) : catL (a ++ b) = catL a ++ catL b := by
  induction a with
  | nil => rfl
  | cons t a ih => simp [catL, ih]
theorem catL_one (l : List ByteArray) (k : Nat) (h : k < l.length) : catL (l.take (k + 1)) = catL (l.take k) ++ l[k].data.toList := by
  rw [List.take_succ_eq_append_getElem h, catL_app]; simp [catL]
theorem catL_le (l : List ByteArray) (k : Nat) : (catL (l.take k)).length ≤ (catL l).length := by
  have h : catL l = catL (l.take k) ++ catL (l.drop k) := by rw [← catL_app, List.take_append_drop]
  rw [h, List.length_append]; omega
theorem wp_app_textE {w : World} {ops : Array Oper} {rest : List Oper} {o : Oper} {a : Act} {Q : Exit → Act → World → Prop} (hgd : o.guard = none) (sl x : Operand)
    (ho : o.op = .call { callee := .builtin .append, args := #[sl, x], argTypes := #[121, 9] }) (base : Nat) (v : Value) (l : List UInt8) (s : ByteArray) (hs : a.eval sl = v) (hx : a.eval x = .string s)
    (hown : OwnsB w base 5 v l) (hn : l.length + s.size ≤ 1000000) (hbase : base ≤ w.heap.size)
    (h : ∀ v' w', OwnsB w' base 5 v' (l ++ s.data.toList) → Below base w w' → w.heap.size ≤ w'.heap.size → wpList Try.prog ops Q rest (a.put o.dst v') w') : wpList Try.prog ops Q (o :: rest) a w := by
  obtain ⟨i, hi, hz0, hz1, hz2⟩ := info_parts Disk.infoB
  refine Lib.wpList_append_own_string w hgd sl x _ _ ho base 5 i Disk.underB Disk.underTx hi hz0 hz1 hz2 v l.length (Lib.byteCells l) hs hown s hx (by unfold maxLen; omega) (by omega) hbase ?_
  intro v' w' h1 h2 _
  refine h v' w' ?_ ?_ h2.size
  · unfold OwnsB
    have e1 : (l ++ s.data.toList).length = l.length + s.size := by rw [List.length_append]; rfl
    have e2 : Lib.byteCells (l ++ s.data.toList) = Lib.byteCells l ++ Lib.strCells s := by simp [Lib.byteCells, Lib.strCells]
    rw [e1, e2]
    exact h1
  · exact (Below.refl base w).grown h2 hbase (fun k hk => (World.ownsRow.lt hown k hk).1)
theorem nil_text (W : World) : (convert 121 9 (.slice none 0 0)).run Try.prog W = .ok (.string ⟨#[]⟩) W := by
  rw [run_convert_bytes_string W 121 9 5 none 0 0 Disk.underB Disk.underU8 Disk.underTx]
  rfl
theorem ownB_textE {W : World} {base : Nat} {v : Value} {l : List UInt8} (h : OwnsB W base 5 v l) : (convert 121 9 v).run Try.prog W = .ok (.string ⟨l.toArray⟩) W := by
  by_cases hv : v = .slice none 0 0
  · subst hv
    have : l = [] := by
      rcases h.2 with ⟨_, h0⟩ | ⟨g, cap, cur, e, _⟩
      · exact List.length_eq_zero_iff.1 h0
      · cases e
    subst this
    exact nil_text W
  · exact Disk.ownB_text h hv
set_option maxRecDepth 100000 in
set_option maxHeartbeats 1000000 in
theorem together_all (v : Value) (ls : List ByteArray) (w : World) (h : Strs w v ls) (hs : (catL ls).length ≤ 100000) (hl : ls.length ≤ 100000) :
    Calls Try.prog 71 #[v] w fun e w' => e = .returned (.string ⟨(catL ls).toArray⟩) ∧ Below w.heap.size w w' := by
  obtain ⟨a, cap, rfl, hc⟩ := h
  have HC : Hid (∀ j (h : j < ls.length), ∃ b o, a = some ⟨b, o, none⟩ ∧ w.cell? ⟨b, o + j, none⟩ = some (.string ls[j])) := hc
  clear hc
  go_enter Try.func71, Try.ntmps71
  go_wp2
  go_loopw [3, 8] (fun v i wr => ∃ k : Nat, k ≤ ls.length ∧ i = .int .i64 k ∧ OwnsB wr w.heap.size 5 v (catL (ls.take k)) ∧ Below w.heap.size w wr) (fun _ i _ => ls.length - (intOf i).toNat)
  case atStart => exact ⟨0, by omega, rfl, World.ownsRow_nil _ _ _ _, Below.refl _ _⟩
  case round =>
    obtain ⟨k, hk, rfl, hown, hbel⟩ := hrel
    have HOWN : Hid (OwnsB wr w.heap.size 5 u3 (catL (ls.take k))) := hown
    have HBEL : Hid (Below w.heap.size w wr) := hbel
    have hz := hbel.size
    clear hown
    by_cases hlt : k < ls.length
    · obtain ⟨b, o, rfl, d1⟩ := HC.out k hlt
      have c1 : wr.cell? ⟨b, o + k, none⟩ = _ := (hbel.cell (World.block_lt_of_cell? w _ d1)).trans d1
      have HE : Hid _ := catL_one ls k hlt
      have HL : Hid ((catL (ls.take k)).length + ls[k].size ≤ 1000000) := by
        have e1 := catL_le ls (k + 1)
        rw [HE.out, List.length_append] at e1
        have e2 : ls[k].data.toList.length = ls[k].size := rfl
        show _ ≤ _
        omega
      have p1 : (k : Int) < (ls.length : Int) := by omega
      generalize ls[k] = t at *
      generalize catL (ls.take k) = l at *
      clear d1 hbel
      go_wp2_with (at_builtin; refine wp_app_textE (by rfl) _ _ (by rfl) w.heap.size u3 l t (by rfl) (by rfl) HOWN.out HL.out hz ?_; intro v' w' ho1 hb1 hz1; have HO1 : Hid _ := ho1; have HB1 : Hid _ := hb1; clear ho1 hb1)
      go_roundw
      case rel => exact ⟨k + 1, by omega, by go_num, by rw [HE.out]; exact HO1.out, HBEL.out.trans HB1.out⟩
      case measure => simp [intOf]; omega
    · obtain rfl : k = ls.length := by omega
      have hcv := ownB_textE HOWN.out
      rw [List.take_length] at hcv
      generalize hzz : (⟨(catL ls).toArray⟩ : ByteArray) = y at *
      have HZ : Hid ((⟨(catL ls).toArray⟩ : ByteArray) = y) := hzz
      clear hbel hzz
      go_wp2
      go_ret
      exact ⟨by rw [HZ.out]; rfl, HBEL.out⟩
theorem run_lits {w : World} (ty : TypeId) (base b m : Nat) (v : Value) (ls ts : List ByteArray) (hm : m = ts.length) (h : OwnS w base v ls) (hbase : base ≤ w.heap.size) (hrow : HasRow w b (ts.map Value.string) 9) (h0 : 0 < ts.length) (hn : ls.length + ts.length ≤ 1000000) :
    ∃ g c w', (Builtin.append_ #[96, 96] ty #[v, .slice (some ⟨b, 0, none⟩) m m]).run Try.prog w = .ok (.slice (some ⟨g, 0, none⟩) (ls.length + m) c) w' ∧ OwnS w' base (.slice (some ⟨g, 0, none⟩) (ls.length + m) c) (ls ++ ts) ∧ w.grownBy w' v.ownBlock ∧ g < w'.heap.size := by
  subst hm
  obtain ⟨i, hi0, hz0, hz1, hz2⟩ := info_parts infoStr
  have hl : (ls.map Value.string).length = ls.length := by simp
  have ht : (ts.map Value.string).length = ts.length := by simp
  obtain ⟨g', cap, w', hr, hown, hgr, hat, hlt⟩ := run_append_lies (P := Try.prog) w 96 ty base 9 i (.string ByteArray.empty) 1 16 underStrs hi0 hz0 hz1 hz2 rfl (by omega) v (ls.map Value.string).length (ls.map Value.string) h ⟨b, 0, none⟩ ts.length ts.length (ts.map Value.string) (by rw [ht]; omega) (fun j u hu => by
    have hadd : (⟨b, 0, none⟩ : Addr).add j = ⟨b, j, none⟩ := by unfold Addr.add; split <;> simp_all
    rw [hadd, Mem.cell_of_row hrow j, hu]) (fun u hu => by obtain ⟨t, _, rfl⟩ := List.mem_map.1 hu; rfl) h0 (by unfold maxLen; rw [hl]; omega) (by rw [hl]; omega) hbase w.heap.size rfl
  rw [hl] at hr hown
  exact ⟨g', cap, w', hr, by unfold OwnS OwnV; rw [List.map_append, List.length_append, hl, ht]; exact hown, hgr, hlt⟩
/-- 'append(v, "..", "..")' in a drawn region -/
theorem step_lits {w : World} {ops : Array Oper} {o : Oper} {a : Act} {K : Act → World → Prop} {Q : Exit → Act → World → Prop} {E : Prop} (hgd : o.guard = none) (s x : Operand)
    (ho : o.op = .call { callee := .builtin .append, args := #[s, x], argTypes := #[96, 96] }) (base b m : Nat) (v : Value) (ls ts : List ByteArray) (hs : a.eval s = v) (hx : a.eval x = .slice (some ⟨b, 0, none⟩) m m) (hm : m = ts.length)
    (h : OwnS w base v ls) (hbase : base ≤ w.heap.size) (hrow : HasRow w b (ts.map Value.string) 9) (h0 : 0 < ts.length) (hn : ls.length + ts.length ≤ 1000000)
    (hK : ∀ g c w', OwnS w' base (.slice (some ⟨g, 0, none⟩) (ls.length + m) c) (ls ++ ts) → w.grownBy w' v.ownBlock → K (a.put o.dst (.slice (some ⟨g, 0, none⟩) (ls.length + m) c)) w') :
    if Region.wanted o (yielded ops a.tmps) = true then Oper.wp Try.prog o a w K Q else E := by
  obtain ⟨g, c, w', hr, h1, h2, _⟩ := run_lits o.type base b m v ls ts hm h hbase hrow h0 hn
  exact step_app hgd s x _ ho _ _ _ w' hs hx hr (hK g c w' h1 h2)
theorem wp_lits {w : World} {ops : Array Oper} {rest : List Oper} {o : Oper} {a : Act} {Q : Exit → Act → World → Prop} (hgd : o.guard = none) (s x : Operand)
    (ho : o.op = .call { callee := .builtin .append, args := #[s, x], argTypes := #[96, 96] }) (base b m : Nat) (v : Value) (ls ts : List ByteArray) (hs : a.eval s = v) (hx : a.eval x = .slice (some ⟨b, 0, none⟩) m m) (hm : m = ts.length)
    (h : OwnS w base v ls) (hbase : base ≤ w.heap.size) (hrow : HasRow w b (ts.map Value.string) 9) (h0 : 0 < ts.length) (hn : ls.length + ts.length ≤ 1000000)
    (hK : ∀ g c w', OwnS w' base (.slice (some ⟨g, 0, none⟩) (ls.length + m) c) (ls ++ ts) → w.grownBy w' v.ownBlock → wpList Try.prog ops Q rest (a.put o.dst (.slice (some ⟨g, 0, none⟩) (ls.length + m) c)) w') : wpList Try.prog ops Q (o :: rest) a w := by
  obtain ⟨g, c, w', hr, h1, h2, _⟩ := run_lits o.type base b m v ls ts hm h hbase hrow h0 hn
  exact wp_app1 hgd s x _ ho _ _ _ w' hs hx hr (hK g c w' h1 h2)
end Go.Proofs.Ytfpgobkedfhakaa.Frm
