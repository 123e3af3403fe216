/- What the program's bytes of a frame are. -/
import Derived.Test.YtkanhjafchiikaaDoorSpecFB
import Derived.Test.YtkanhjafchiikaaDoorImplFrame
import Derived.Test.YtkanhjafchiikaaDoorTextsB
import Derived.BigRegion
namespace Go.Proofs.YtkanhjafchiikaaDoor.Frm
open Go.RowKit Go.Proofs.YtkanhjafchiikaaDoor.Mem Go.Proofs.YtkanhjafchiikaaDoor.Gf Go.Proofs.YtkanhjafchiikaaDoor.Harn

def ptrs (b : Nat) : List Value := (List.range 7).map fun k => .pointer (some ⟨b, k, none⟩)
set_option maxRecDepth 100000 in
set_option maxHeartbeats 1000000 in
theorem numbersOf_any (b : Nat) (w : World) : Calls Tryd.prog 23 #[.pointer (some ⟨b, 0, none⟩)] w fun e w' => e = .returned (.slice (some ⟨w.heap.size, 0, none⟩) 7 7) ∧ HasRow w' w.heap.size (ptrs b) 54 ∧ Below w.heap.size w w' := by
  have HP : Hid (ptrs b = [.pointer (some ⟨b, 0, none⟩), .pointer (some ⟨b, 1, none⟩), .pointer (some ⟨b, 2, none⟩), .pointer (some ⟨b, 3, none⟩), .pointer (some ⟨b, 4, none⟩), .pointer (some ⟨b, 5, none⟩), .pointer (some ⟨b, 6, none⟩)]) := rfl
  go_enter Tryd.func23, Tryd.ntmps23
  go_wp2_with fail
  go_region
  all_goals
    go_wp2
    go_ret
    refine ⟨rfl, ?_, ?_⟩
    · rw [HP.out]; exact Sha.row_new_at _ _ _ _ rfl
    · exact Sha.bel_drewN (bself' _) 1
theorem ptrs_at (b k : Nat) (h : k < 7) : (ptrs b)[k]? = some (.pointer (some ⟨b, k, none⟩)) := by simp [ptrs, h]

theorem wp_app_textN {w : World} {ops : Array Oper} {rest : List Oper} {o : Oper} {a : Act} {Q : Exit → Act → World → Prop} (hgd : o.guard = none) (sl x : Operand)
    (ho : o.op = .call { callee := .builtin .append, args := #[sl, x], argTypes := #[59, 9] }) (base : Nat) (v : Value) (l : List UInt8) (s : ByteArray) (hs : a.eval sl = v) (hx : a.eval x = .string s)
    (hown : OwnsB w base 5 v l) (hn : l.length + s.size ≤ 1000000) (h0 : 0 < s.size) (hbase : base ≤ w.heap.size)
    (h : ∀ v' w', OwnsB w' base 5 v' (l ++ s.data.toList) → v' ≠ .slice none 0 0 → Below base w w' → w.heap.size ≤ w'.heap.size → wpList Tryd.prog ops Q rest (a.put o.dst v') w') : wpList Tryd.prog ops Q (o :: rest) a w := by
  obtain ⟨i, hi, hz0, hz1, hz2⟩ := info_parts Disk.infoB
  refine Lib.wpList_append_own_string w hgd sl x _ _ ho base 5 i Disk.underB Disk.underTx hi hz0 hz1 hz2 v l.length (Lib.byteCells l) hs hown s hx (by unfold maxLen; omega) (by omega) hbase ?_
  intro v' w' h1 h2 h3
  refine h v' w' ?_ (fun e => by have := (h3.1 e).2; omega) ?_ h2.size
  · unfold OwnsB
    have e1 : (l ++ s.data.toList).length = l.length + s.size := by rw [List.length_append]; rfl
    have e2 : Lib.byteCells (l ++ s.data.toList) = Lib.byteCells l ++ Lib.strCells s := by simp [Lib.byteCells, Lib.strCells]
    rw [e1, e2]
    exact h1
  · exact (Below.refl base w).grown h2 hbase (fun k hk => (World.ownsRow.lt hown k hk).1)

theorem catS_one (l : List ByteArray) (k : Nat) (h : k < l.length) : catS (l.take (k + 1)) = catS (l.take k) + l[k].size := by
  rw [List.take_succ_eq_append_getElem h, catS_app]; rfl
theorem catB_one (l : List ByteArray) (k : Nat) (h : k < l.length) : (catB (l.take (k + 1))).data.toList = (catB (l.take k)).data.toList ++ l[k].data.toList := by
  rw [List.take_succ_eq_append_getElem h, catB_snoc]; simp
theorem catB_len (l : List ByteArray) : (catB l).data.toList.length = catS l := (catB_size l ▸ rfl)
theorem str_eq {a b : ByteArray} (h : a.data.toList = b.data.toList) : a = b := by
  apply ByteArray.ext; apply Array.ext'; exact h

set_option maxRecDepth 100000 in
set_option maxHeartbeats 1000000 in
theorem together_any (v : Value) (ls : List ByteArray) (w : World) (h : Strs w v ls) (hs : catS ls ≤ 100000) (hl : ls.length ≤ 1000) (h1 : 0 < ls.length) (h0 : ∀ t ∈ ls, 0 < t.size) :
    Calls Tryd.prog 29 #[v] w fun e w' => e = .returned (.string (catB ls)) ∧ Below w.heap.size w w' := by
  obtain ⟨a, cap, rfl, hc⟩ := h
  have HC : Hid (∀ j (h : j < ls.length), ∃ b o, a = some ⟨b, o, none⟩ ∧ w.cell? ⟨b, o + j, none⟩ = some (.string ls[j])) := hc
  have H0 : Hid (∀ t ∈ ls, 0 < t.size) := h0
  clear hc h0
  go_enter Tryd.func29, Tryd.ntmps29
  go_wp2
  go_loopw [3, 8] (fun v i wr => ∃ k : Nat, k ≤ ls.length ∧ i = .int .i64 k ∧ OwnsB wr w.heap.size 5 v (catB (ls.take k)).data.toList ∧ (0 < k → v ≠ .slice none 0 0) ∧ Below w.heap.size w wr) (fun _ i _ => ls.length - (intOf i).toNat)
  case atStart => exact ⟨0, by omega, rfl, World.ownsRow_nil _ _ _ _, fun h => by omega, Below.refl _ _⟩
  case round =>
    obtain ⟨k, hk, rfl, hown, hnil, hbel⟩ := hrel
    have HOWN : Hid (OwnsB wr w.heap.size 5 u3 (catB (ls.take k)).data.toList) := hown
    have HBEL : Hid (Below w.heap.size w wr) := hbel
    have HNIL : Hid (0 < k → u3 ≠ .slice none 0 0) := hnil
    have hz := hbel.size
    clear hown hnil
    by_cases hlt : k < ls.length
    · obtain ⟨b, o, rfl, d1⟩ := HC.out k hlt
      have c1 : wr.cell? ⟨b, o + k, none⟩ = _ := (hbel.cell (World.block_lt_of_cell? w _ d1)).trans d1
      have HE : Hid _ := catB_one ls k hlt
      have HL : Hid ((catB (ls.take k)).data.toList.length + ls[k].size ≤ 1000000) := by
        have e1 := catB_len (ls.take k)
        have e2 := catS_one ls k hlt
        have e3 := catS_take ls (k + 1)
        show _ ≤ _
        omega
      have HP : Hid (0 < ls[k].size) := H0.out _ (List.getElem_mem hlt)
      have p1 : (k : Int) < (ls.length : Int) := by omega
      generalize ls[k] = t at *
      generalize (catB (ls.take k)).data.toList = l at *
      clear d1 hbel
      go_wp2_with (at_builtin; refine wp_app_textN (by rfl) _ _ (by rfl) w.heap.size u3 l t (by rfl) (by rfl) HOWN.out HL.out HP.out hz ?_; intro v' w' ho1 hn1 hb1 hz1; have HO1 : Hid _ := ho1; have HB1 : Hid _ := hb1; have HN1 : Hid _ := hn1; clear ho1 hb1 hn1)
      go_roundw
      case rel => exact ⟨k + 1, by omega, by go_num, by rw [HE.out]; exact HO1.out, fun _ => HN1.out, HBEL.out.trans HB1.out⟩
      case measure => simp [intOf]; omega
    · obtain rfl : k = ls.length := by omega
      have hcv := Disk.ownB_text HOWN.out (HNIL.out h1)
      rw [List.take_length] at hcv
      have e : (⟨(catB ls).data.toList.toArray⟩ : ByteArray) = catB ls := str_eq (by simp)
      rw [e] at hcv
      have HZ : Hid (∃ z, z = catB ls) := ⟨_, rfl⟩
      obtain ⟨z, hz'⟩ := HZ.out
      rw [← hz'] at hcv
      have HZ' : Hid (z = catB ls) := hz'
      clear e hbel hz' HZ
      go_wp2
      go_ret
      exact ⟨PutNum.ret_str HZ'.out, HBEL.out⟩

theorem nums_len (f : Fr) : f.nums.length = 7 := rfl
theorem texts_len (f : Fr) : f.texts.length = 8 := rfl
theorem nums_bd {f : Fr} (h : f.right = true) : ∀ k (hk : k < f.nums.length), -9223372036854775808 ≤ f.nums[k] ∧ f.nums[k] ≤ 9223372036854775807 := by
  obtain ⟨⟨o1, o2⟩, ⟨g1, g2⟩, ⟨gs1, gs2⟩, ⟨n1, n2⟩, ⟨m1, m2⟩, ⟨s1, s2⟩, ⟨x1, x2⟩, t1⟩ := Fr.bounds h
  have hall : ∀ y ∈ f.nums, -9223372036854775808 ≤ y ∧ y ≤ 9223372036854775807 := by
    intro y hy
    simp only [Fr.nums, List.mem_cons, List.not_mem_nil, or_false] at hy
    rcases hy with rfl | rfl | rfl | rfl | rfl | rfl | rfl <;> constructor <;> omega
  exact fun k hk => hall _ (List.getElem_mem hk)
/-- a frame's eight cells -/
def Fr.cells (f : Fr) : List Value := [.int .i64 f.o, .int .i64 f.g, .int .i64 f.gs, .int .i64 f.n, .int .i64 f.m, .int .i64 f.s, .int .i64 f.x, .string f.t]
theorem cells_num (f : Fr) (k : Nat) (hk : k < f.nums.length) : f.cells[k]? = some (.int .i64 f.nums[k]) := by
  have h : k < 7 := hk
  rcases k with _ | _ | _ | _ | _ | _ | _ | k
  · rfl
  · rfl
  · rfl
  · rfl
  · rfl
  · rfl
  · rfl
  · omega
theorem cells_text (f : Fr) : f.cells[7]? = some (.string f.t) := rfl
theorem take_numB (f : Fr) (k : Nat) (hk : k < f.nums.length) : (f.nums.take (k + 1)).map PutNum.numB = (f.nums.take k).map PutNum.numB ++ [PutNum.numB f.nums[k]] := by
  rw [List.take_succ_eq_append_getElem hk, List.map_append]; rfl
theorem texts_pos (f : Fr) : ∀ t ∈ f.texts, 0 < t.size := by
  intro t ht
  rcases List.mem_append.1 ht with h | h
  · obtain ⟨n, _, rfl⟩ := List.mem_map.1 h
    have := (numB_size n).1; omega
  · simp only [List.mem_singleton] at h
    subst h
    have := (numB_size (f.t.size : Nat)).1
    simp only [PutText.textB, ByteArray.size_append]; omega

set_option maxRecDepth 100000 in
set_option maxHeartbeats 2000000 in
theorem implFB_yes (f : Fr) (w : World) (hr : f.right = true) : Calls Tryd.prog 13 #[f.val] w fun e w' => e = .returned (.string f.bytes) ∧ Below w.heap.size w w' := by
  have HR : Hid (∀ W, Calls Tryd.prog 26 #[f.val] W fun e w' => e = .returned (.bool true) ∧ Below W.heap.size W w') := fun W => by rw [← hr]; exact implFR_any f W
  have hts := f.texts_size (by have := (Fr.bounds hr).2.2.2.2.2.2.2; omega)
  have hbt := (Fr.bounds hr).2.2.2.2.2.2.2
  have HPN : Hid (∀ k (hk : k < f.nums.length) W, Calls Tryd.prog 27 #[.int .i64 f.nums[k]] W fun e w' => e = .returned (.string (PutNum.numB f.nums[k])) ∧ Below W.heap.size W w') := fun k hk W => PutNum.implPutNum_any _ W (nums_bd hr k hk).1 (nums_bd hr k hk).2
  have HPT : Hid (∀ W, Calls Tryd.prog 28 #[.string f.t] W fun e w' => e = .returned (.string (PutText.textB f.t)) ∧ Below W.heap.size W w') := fun W => PutText.implPutText_in f.t W (by omega)
  have HTG : Hid (∀ v W, Strs W v f.texts → Calls Tryd.prog 29 #[v] W fun e w' => e = .returned (.string (catB f.texts)) ∧ Below W.heap.size W w') := fun v W h => together_any v f.texts W h (by omega) (by rw [texts_len]; omega) (by rw [texts_len]; omega) (texts_pos f)
  have HSL : Hid (∀ W, Calls Tryd.prog 21 #[.string (catB f.texts)] W fun e w' => e = .returned (.string f.bytes) ∧ Below W.heap.size W w') := fun W => Seal.implSeal_in _ W (by rw [catB_size]; omega)
  have HTK : Hid (∀ k (hk : k < f.nums.length), (f.nums.take (k + 1)).map PutNum.numB = (f.nums.take k).map PutNum.numB ++ [PutNum.numB f.nums[k]]) := take_numB f
  have HTL : Hid (∀ k, k ≤ 7 → ((f.nums.take k).map PutNum.numB).length = k) := fun k hk => by have := nums_len f; simp; omega
  have HTE : Hid (f.texts = (f.nums.take 7).map PutNum.numB ++ [PutText.textB f.t]) := rfl
  have HCN : Hid (∀ k (hk : k < f.nums.length), f.cells[k]? = some (.int .i64 f.nums[k])) := cells_num f
  have HCT : Hid (f.cells[7]? = some (.string f.t)) := rfl
  have HNL : Hid (f.nums.length = 7) := rfl
  have HBOX : Hid (∀ W : World, HasRow (W.alloc (.cells #[.int .i64 f.o, .int .i64 f.g, .int .i64 f.gs, .int .i64 f.n, .int .i64 f.m, .int .i64 f.s, .int .i64 f.x, .string f.t] 25)) W.heap.size f.cells 25) := fun W => Sha.row_new W f.cells 25
  have HV : Hid (f.val = .agg #[.int .i64 f.o, .int .i64 f.g, .int .i64 f.gs, .int .i64 f.n, .int .i64 f.m, .int .i64 f.s, .int .i64 f.x, .string f.t]) := rfl
  generalize f.bytes = bt at *
  generalize f.texts = txs at *
  generalize f.nums = ns at *
  generalize f.cells = cs at *
  rw [HV.out] at *
  obtain ⟨o, g, gs, n, m, s, x, t⟩ := f
  dsimp only at *
  clear hr hts hbt HV
  go_enter Tryd.func13, Tryd.ntmps13
  go_wp2_with fail
  refine (HR.out _).mono ?_
  rintro e w1 ⟨rfl, hb1⟩
  have HR1 : Hid (HasRow w1 w.heap.size cs 25) := Sha.row_below (HBOX.out w) hb1 (by simp)
  have HB1 : Hid (Below w.heap.size w w1) := bstep (bself' _) hb1
  have hz1 := hb1.size
  simp at hz1
  clear hb1 HBOX
  go_wp2_with fail
  refine (numbersOf_any w.heap.size _).mono ?_
  rintro e w2 ⟨rfl, hrow, hb2⟩
  generalize hRR : w1.heap.size = R at *
  have HR2 : Hid (HasRow w2 w.heap.size cs 25) := Sha.row_below HR1.out (hRR ▸ hb2) (by omega)
  have HP2 : Hid (HasRow w2 R (ptrs w.heap.size) 54) := hrow
  have HZ2 : Hid (R < w2.heap.size) := by
    have := World.block_lt_of_cell? w2 ⟨R, 0, none⟩ ((Mem.cell_of_row hrow 0).trans (ptrs_at _ 0 (by omega)))
    exact this
  have HB2 : Hid (Below w.heap.size w w2) := bstep HB1.out (hRR ▸ hb2)
  have hzz : w.heap.size < R := by omega
  clear hb2 hRR HR1 HB1 hrow hz1
  go_wp2
  go_loopw [3, 11] (fun v i wr => ∃ k : Nat, k ≤ 7 ∧ i = .int .i64 k ∧ OwnS wr w2.heap.size v ((ns.take k).map PutNum.numB) ∧ Below w2.heap.size w2 wr) (fun _ i _ => 7 - (intOf i).toNat)
  case atStart => exact ⟨0, by omega, rfl, World.ownsRow_nil _ _ _ _, Below.refl _ _⟩
  case round =>
    obtain ⟨k, hk, rfl, hown, hbel⟩ := hrel
    have HOWN : Hid (OwnS wr w2.heap.size u3 ((ns.take k).map PutNum.numB)) := hown
    have HBEL : Hid (Below w2.heap.size w2 wr) := hbel
    have hz := hbel.size
    have HZR : Hid (R < w2.heap.size) := HZ2.out
    have HF : Hid (HasRow wr w.heap.size cs 25) := Sha.row_below HR2.out hbel (by have := HZ2.out; omega)
    clear hown
    by_cases hlt : k < 7
    · have hnl := HNL.out
      have c1 : wr.cell? ⟨R, k, none⟩ = some (.pointer (some ⟨w.heap.size, k, none⟩)) := (Mem.cell_of_row (Sha.row_below HP2.out hbel HZ2.out) k).trans (ptrs_at _ k hlt)
      have c2 : wr.cell? ⟨w.heap.size, k, none⟩ = some (.int .i64 (ns[k]'(by omega))) := (Mem.cell_of_row HF.out k).trans (HCN.out k (by omega))
      have HTE' : Hid _ := HTK.out k (by omega)
      have HTN : Hid (((ns.take k).map PutNum.numB).length = k) := HTL.out k (by omega)
      have HPN' : Hid (∀ W, _) := fun W => HPN.out k (by omega) W
      generalize PutNum.numB (ns[k]'(by omega)) = y at *
      generalize ns[k]'(by omega) = nk at *
      generalize (ns.take k).map PutNum.numB = l at *
      have p1 : (k : Int) < 7 := by omega
      clear hbel hnl
      go_wp2_with fail
      refine (HPN'.out _).mono ?_
      rintro e w3 ⟨rfl, hb3⟩
      have HB3 : Hid (Below w2.heap.size w2 w3) := bstep HBEL.out hb3
      have HO3 : Hid (OwnS w3 w2.heap.size u3 l) := OwnS.below HOWN.out hb3 (Nat.le_refl _)
      have hz3 := HB3.out.size
      clear hb3 c1 c2
      go_wp2_with (at_builtin; refine wp_str (by rfl) _ _ (by rfl) w2.heap.size w3.heap.size u3 l y (by rfl) (by rfl) (OwnS.alloc HO3.out _) (size_new hz3 _) (cell_new _ _ _) (by have := HTN.out; omega) ?_; intro g3 cap3 w4 ho4 hb4 hz4; have HO4 : Hid _ := ho4; have HB4 : Hid _ := hb4; clear ho4 hb4)
      go_roundw
      case rel => exact ⟨k + 1, by omega, by go_num, by rw [HTE'.out]; exact HO4.out, ((HB3.out.alloc HB3.out.size _).trans HB4.out)⟩
      case measure => simp [intOf]; omega
    · obtain rfl : k = 7 := by omega
      have c2 : wr.cell? ⟨w.heap.size, 7, none⟩ = some (.string t) := (Mem.cell_of_row HF.out 7).trans HCT.out
      have HTN : Hid (((ns.take 7).map PutNum.numB).length = 7) := HTL.out 7 (by omega)
      generalize PutText.textB t = y at *
      generalize (ns.take 7).map PutNum.numB = l at *
      clear hbel
      go_wp2_with fail
      refine (HPT.out _).mono ?_
      rintro e w3 ⟨rfl, hb3⟩
      have HB3 : Hid (Below w2.heap.size w2 w3) := bstep HBEL.out hb3
      have HO3 : Hid (OwnS w3 w2.heap.size u3 l) := OwnS.below HOWN.out hb3 (Nat.le_refl _)
      have hz3 := HB3.out.size
      clear hb3 c2
      go_wp2_with (at_builtin; refine wp_str (by rfl) _ _ (by rfl) w2.heap.size w3.heap.size u3 l y (by rfl) (by rfl) (OwnS.alloc HO3.out _) (size_new hz3 _) (cell_new _ _ _) (by have := HTN.out; omega) ?_; intro g3 cap3 w4 ho4 hb4 hz4; rw [← HTE.out] at ho4; have HST : Hid (Strs w4 (.slice (some ⟨g3, 0, none⟩) (l.length + 1) cap3) txs) := OwnS.strs ho4; have HB4 : Hid (Below w2.heap.size w2 w4) := ((HB3.out.alloc HB3.out.size _).trans hb4); clear ho4 hb4 hz4)
      refine (HTG.out _ _ HST.out).mono ?_
      rintro e w5 ⟨rfl, hb5⟩
      have HB5 : Hid (Below w2.heap.size w2 w5) := bstep HB4.out hb5
      clear hb5
      go_wp2_with fail
      refine (HSL.out _).mono ?_
      rintro e w6 ⟨rfl, hb6⟩
      have HB6 : Hid (Below w.heap.size w w6) := HB2.out.trans ((bstep HB5.out hb6).mono HB2.out.size)
      clear hb6
      go_wp2
      go_ret
      exact ⟨rfl, HB6.out⟩

set_option maxRecDepth 100000 in
theorem implFB_any (f : Fr) (w : World) : Calls Tryd.prog 13 #[f.val] w fun e w' => e = .returned (.string f.out) ∧ Below w.heap.size w w' := by
  by_cases hr : f.right = true
  · have e : f.out = f.bytes := by unfold Fr.out; rw [if_pos hr]
    rw [e]; exact implFB_yes f w hr
  · have hr' : f.right = false := by simpa using hr
    have e : f.out = ByteArray.empty := by unfold Fr.out; rw [hr']; rfl
    have HR : Hid (∀ W, Calls Tryd.prog 26 #[f.val] W fun e w' => e = .returned (.bool false) ∧ Below W.heap.size W w') := fun W => by rw [← hr']; exact implFR_any f W
    rw [e]
    clear hr hr' e
    obtain ⟨o, g, gs, n, m, s, x, t⟩ := f
    unfold Fr.val at *
    dsimp only at *
    go_enter Tryd.func13, Tryd.ntmps13
    go_wp2_with (go_at_call 26; refine (HR.out _).mono ?_; rintro e w1 ⟨rfl, hb1⟩)
    go_ret
    exact ⟨rfl, bstep (bself' _) hb1⟩
end Go.Proofs.YtkanhjafchiikaaDoor.Frm
