/- What the program's bytes of a frame are. -/
import Derived.Test.YtjgkekgieodhnaaSpecFB
import Derived.Test.YtjgkekgieodhnaaImplFrame
import Derived.Test.YtjgkekgieodhnaaAppText
import Derived.BigRegion
namespace Go.Proofs.Ytjgkekgieodhnaa.Frm
open Go.RowKit Go.Proofs.Ytjgkekgieodhnaa.Mem Go.Proofs.Ytjgkekgieodhnaa.Gf Go.Proofs.Ytjgkekgieodhnaa.Harn

def ptrs (b : Nat) : List Value := (List.range 7).map fun k => .pointer (some ⟨b, k, none⟩)
theorem ptrs_at (b k : Nat) (h : k < 7) : (ptrs b)[k]? = some (.pointer (some ⟨b, k, none⟩)) := by simp [ptrs, h]

theorem wp_app_textN {w : World} {ops : Array Oper} {rest : List Oper} {o : Oper} {a : Act} {Q : Exit → Act → World → Prop} (hgd : o.guard = none) (sl x : Operand)
    (ho : o.op = .call { callee := .builtin .append, args := #[sl, x], argTypes := #[81, 9] }) (base : Nat) (v : Value) (l : List UInt8) (s : ByteArray) (hs : a.eval sl = v) (hx : a.eval x = .string s)
    (hown : OwnsB w base 5 v l) (hn : l.length + s.size ≤ 1000000) (h0 : 0 < s.size) (hbase : base ≤ w.heap.size)
    (h : ∀ v' w', OwnsB w' base 5 v' (l ++ s.data.toList) → v' ≠ .slice none 0 0 → Below base w w' → w.heap.size ≤ w'.heap.size → wpList Try.prog ops Q rest (a.put o.dst v') w') : wpList Try.prog ops Q (o :: rest) a w := by
  obtain ⟨i, hi, hz0, hz1, hz2⟩ := info_parts Disk.infoB
  refine Lib.wpList_append_own_string w hgd sl x _ _ ho base 5 i Disk.underB Disk.underTx hi hz0 hz1 hz2 v l.length (Lib.byteCells l) hs hown s hx (by unfold maxLen; omega) (by omega) hbase ?_
  intro v' w' h1 h2 h3
  refine h v' w' ?_ (fun e => by have := (h3.1 e).2; omega) ?_ h2.size
  · unfold OwnsB
    have e1 : (l ++ s.data.toList).length = l.length + s.size := by rw [List.length_append]; rfl
    have e2 : Lib.byteCells (l ++ s.data.toList) = Lib.byteCells l ++ Lib.strCells s := by simp [Lib.byteCells, Lib.strCells]
    rw [e1, e2]
    exact h1
  · exact (Below.refl base w).grown h2 hbase (fun k hk => (World.ownsRow.lt hown k hk).1)

theorem catS_one (l : List ByteArray) (k : Nat) (h : k < l.length) : catS (l.take (k + 1)) = catS (l.take k) + l[k].size := by
  rw [List.take_succ_eq_append_getElem h, catS_app]; rfl
theorem catB_one (l : List ByteArray) (k : Nat) (h : k < l.length) : (catB (l.take (k + 1))).data.toList = (catB (l.take k)).data.toList ++ l[k].data.toList := by
  rw [List.take_succ_eq_append_getElem h, catB_snoc]; simp
theorem catB_len (l : List ByteArray) : (catB l).data.toList.length = catS l := (catB_size l ▸ rfl)
theorem str_eq {a b : ByteArray} (h : a.data.toList = b.data.toList) : a = b := by
  apply ByteArray.ext; apply Array.ext'; exact h

set_option maxRecDepth 100000 in
set_option maxHeartbeats 1000000 in
theorem together_any (v : Value) (ls : List ByteArray) (w : World) (h : Strs w v ls) (hs : catS ls ≤ 100000) (hl : ls.length ≤ 1000) (h1 : 0 < ls.length) (h0 : ∀ t ∈ ls, 0 < t.size) :
    Calls Try.prog 49 #[v] w fun e w' => e = .returned (.string (catB ls)) ∧ Below w.heap.size w w' := by
  obtain ⟨a, cap, rfl, hc⟩ := h
  have HC : Hid (∀ j (h : j < ls.length), ∃ b o, a = some ⟨b, o, none⟩ ∧ w.cell? ⟨b, o + j, none⟩ = some (.string ls[j])) := hc
  have H0 : Hid (∀ t ∈ ls, 0 < t.size) := h0
  clear hc h0
  go_enter Try.func49, Try.ntmps49
  go_wp2
  go_loopw [3, 8] (fun v i wr => ∃ k : Nat, k ≤ ls.length ∧ i = .int .i64 k ∧ OwnsB wr w.heap.size 5 v (catB (ls.take k)).data.toList ∧ (0 < k → v ≠ .slice none 0 0) ∧ Below w.heap.size w wr) (fun _ i _ => ls.length - (intOf i).toNat)
  case atStart => exact ⟨0, by omega, rfl, World.ownsRow_nil _ _ _ _, fun h => by omega, Below.refl _ _⟩
  case round =>
    obtain ⟨k, hk, rfl, hown, hnil, hbel⟩ := hrel
    have HOWN : Hid (OwnsB wr w.heap.size 5 u3 (catB (ls.take k)).data.toList) := hown
    have HBEL : Hid (Below w.heap.size w wr) := hbel
    have HNIL : Hid (0 < k → u3 ≠ .slice none 0 0) := hnil
    have hz := hbel.size
    clear hown hnil
    by_cases hlt : k < ls.length
    · obtain ⟨b, o, rfl, d1⟩ := HC.out k hlt
      have c1 : wr.cell? ⟨b, o + k, none⟩ = _ := (hbel.cell (World.block_lt_of_cell? w _ d1)).trans d1
      have HE : Hid _ := catB_one ls k hlt
      have HL : Hid ((catB (ls.take k)).data.toList.length + ls[k].size ≤ 1000000) := by
        have e1 := catB_len (ls.take k)
        have e2 := catS_one ls k hlt
        have e3 := catS_take ls (k + 1)
        show _ ≤ _
        omega
      have HP : Hid (0 < ls[k].size) := H0.out _ (List.getElem_mem hlt)
      have p1 : (k : Int) < (ls.length : Int) := by omega
      generalize ls[k] = t at *
      generalize (catB (ls.take k)).data.toList = l at *
      clear d1 hbel
      go_wp2_with (at_builtin; refine wp_app_textN (by rfl) _ _ (by rfl) w.heap.size u3 l t (by rfl) (by rfl) HOWN.out HL.out HP.out hz ?_; intro v' w' ho1 hn1 hb1 hz1; have HO1 : Hid _ := ho1; have HB1 : Hid _ := hb1; have HN1 : Hid _ := hn1; clear ho1 hb1 hn1)
      go_roundw
      case rel => exact ⟨k + 1, by omega, by go_num, by rw [HE.out]; exact HO1.out, fun _ => HN1.out, HBEL.out.trans HB1.out⟩
      case measure => simp [intOf]; omega
    · obtain rfl : k = ls.length := by omega
      have hcv := Disk.ownB_text HOWN.out (HNIL.out h1)
      rw [List.take_length] at hcv
      have e : (⟨(catB ls).data.toList.toArray⟩ : ByteArray) = catB ls := str_eq (by simp)
      rw [e] at hcv
      have HZ : Hid (∃ z, z = catB ls) := ⟨_, rfl⟩
      obtain ⟨z, hz'⟩ := HZ.out
      rw [← hz'] at hcv
      have HZ' : Hid (z = catB ls) := hz'
      clear e hbel hz' HZ
      go_wp2
      go_ret
      exact ⟨PutNum.ret_str HZ'.out, HBEL.out⟩

theorem nums_len (f : Fr) : f.nums.length = 7 := rfl
theorem texts_len (f : Fr) : f.texts.length = 8 := rfl
theorem nums_bd {f : Fr} (h : f.right = true) : ∀ k (hk : k < f.nums.length), -9223372036854775808 ≤ f.nums[k] ∧ f.nums[k] ≤ 9223372036854775807 := by
  obtain ⟨⟨o1, o2⟩, ⟨g1, g2⟩, ⟨gs1, gs2⟩, ⟨n1, n2⟩, ⟨m1, m2⟩, ⟨s1, s2⟩, ⟨x1, x2⟩, t1⟩ := Fr.bounds h
  have hall : ∀ y ∈ f.nums, -9223372036854775808 ≤ y ∧ y ≤ 9223372036854775807 := by
    intro y hy
    simp only [Fr.nums, List.mem_cons, List.not_mem_nil, or_false] at hy
    rcases hy with rfl | rfl | rfl | rfl | rfl | rfl | rfl <;> constructor <;> omega
  exact fun k hk => hall _ (List.getElem_mem hk)
/-- a frame's eight cells -/
def Fr.cells (f : Fr) : List Value := [.int .i64 f.o, .int .i64 f.g, .int .i64 f.gs, .int .i64 f.n, .int .i64 f.m, .int .i64 f.s, .int .i64 f.x, .string f.t]
theorem cells_num (f : Fr) (k : Nat) (hk : k < f.nums.length) : f.cells[k]? = some (.int .i64 f.nums[k]) := by
  have h : k < 7 := hk
  rcases k with _ | _ | _ | _ | _ | _ | _ | k
  · rfl
  · rfl
  · rfl
  · rfl
  · rfl
  · rfl
  · rfl
  · omega
theorem cells_text (f : Fr) : f.cells[7]? = some (.string f.t) := rfl
theorem take_numB (f : Fr) (k : Nat) (hk : k < f.nums.length) : (f.nums.take (k + 1)).map PutNum.numB = (f.nums.take k).map PutNum.numB ++ [PutNum.numB f.nums[k]] := by
  rw [List.take_succ_eq_append_getElem hk, List.map_append]; rfl
theorem texts_pos (f : Fr) : ∀ t ∈ f.texts, 0 < t.size := by
  intro t ht
  rcases List.mem_append.1 ht with h | h
  · obtain ⟨n, _, rfl⟩ := List.mem_map.1 h
    have := (numB_size n).1; omega
  · simp only [List.mem_singleton] at h
    subst h
    have := (numB_size (f.t.size : Nat)).1
    simp only [PutText.textB, ByteArray.size_append]; omega

end Go.Proofs.Ytjgkekgieodhnaa.Frm
