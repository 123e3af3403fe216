/- Which ops are right: the program's answer. -/
import Derived.Test.YtfpgobkedfhakabSpecOps
import Derived.Test.YtfpgobkedfhakabTextsE
import Derived.Laws.StructEq
import Derived.Deep.RegionWith
import Derived.Test.YtfpgobkedfhakabTextsD
namespace Go.Proofs.Ytfpgobkedfhakab.Ops
open Go.RowKit Go.Proofs.Ytfpgobkedfhakab.Mem Go.Proofs.Ytfpgobkedfhakab.Mark Go.Proofs.Ytfpgobkedfhakab.Harn Go.Proofs.Ytfpgobkedfhakab.Rws Go.Proofs.Ytfpgobkedfhakab.Gf Go.Proofs.Ytfpgobkedfhakab.Tre

theorem neq_self (f m : Int) (t : ByteArray) : ∀ W, (binOp BinOp.neq 42 (.agg #[.int .i64 f, .int .i64 m, .string t]) (.agg #[.int .i64 f, .int .i64 m, .string t])).run Try.prog W = .ok (.bool false) W := fun W => by
  have u0 : Try.prog.underlying 9 = some .string := by kernel_rfl
  have u1 : Try.prog.underlying 2 = some (.int .i64) := by kernel_rfl
  have uf : Try.prog.underlying 42 = some (.struct (Try.prog.fieldsOf 42)) := by kernel_rfl
  have hp : Try.prog.stoodInHeld 42 = false := by kernel_rfl
  have hm : (Try.prog.fieldsOf 42).toList.map (fun f => (f.name, f.type, f.offset)) = [("From", 2, 0), ("Many", 2, 1), ("Text", 9, 2)] := by kernel_rfl
  rw [run_neq_struct, run_equalIn_agg _ _ _ _ _ uf hp]
  generalize (Try.prog.fieldsOf 42).toList = fs at *
  obtain ⟨a0, f1, rfl, e0, h1⟩ := List.map_eq_cons_iff.1 hm
  obtain ⟨a1, f2, rfl, e1, h2⟩ := List.map_eq_cons_iff.1 h1
  obtain ⟨a2, f3, rfl, e2, h3⟩ := List.map_eq_cons_iff.1 h2
  obtain rfl : f3 = [] := by simpa using h3
  simp only [Prod.mk.injEq] at e0 e1 e2
  obtain ⟨n0, t0, o0⟩ := e0
  obtain ⟨n1, t1, o1⟩ := e1
  obtain ⟨n2, t2, o2⟩ := e2
  have es : ∀ (a b : ByteArray) (W : World), (Op.equalIn 9999 9 (.string a) (.string b)).run Try.prog W = .ok (a.toList == b.toList) W := fun a b W => run_equalIn_string W 9998 _ a b u0
  have ei : ∀ (a b : Int) (W : World), (Op.equalIn 9999 2 (.int .i64 a) (.int .i64 b)).run Try.prog W = .ok (a == b) W := fun a b W => run_equalIn_int W 9998 _ .i64 .i64 a b u1
  simp [Op.eqFields, n0, n1, n2, t0, t1, t2, o0, o1, o2, part, es, ei, Result.andThen]
set_option maxRecDepth 100000 in
set_option maxHeartbeats 1000000 in
theorem equal_same (v u : Value) (l : List Del.Pc) (w : World) (h : Del.Ls w v l) (h2 : Del.Ls w u l) (hn : l.length ≤ maxLen) :
    Calls Try.prog 38 #[v, u] w fun e w' => e = .returned (.bool true) ∧ Below w.heap.size w w' := by
  obtain ⟨a, cap, rfl, hc⟩ := h.at
  obtain ⟨a2, cap2, rfl, hc2⟩ := h2.at
  have HC := hidR hc
  have HC2 := hidR hc2
  unfold maxLen at hn
  clear hc hc2 h h2
  go_enter Try.func38, Try.ntmps38
  go_wp2
  go_loopw [13] (fun i wr => ∃ k : Nat, k ≤ l.length ∧ i = .int .i64 k ∧ Below w.heap.size w wr) (fun i _ => l.length - (intOf i).toNat)
  case atStart => exact ⟨0, by omega, rfl, Below.refl _ _⟩
  case round =>
    obtain ⟨k, hk, rfl, hbel⟩ := hrel
    by_cases hlt : k < l.length
    · obtain ⟨b, o, rfl, d0, d1, d2⟩ := HC.out k hlt
      obtain ⟨b2, o2, rfl, e0, e1, e2⟩ := HC2.out k hlt
      have c0 : wr.cell? ⟨b, o + k * 3, none⟩ = _ := (hbel.cell (World.block_lt_of_cell? w _ d0)).trans d0
      have c1 : wr.cell? ⟨b, o + k * 3 + 1, none⟩ = _ := (hbel.cell (World.block_lt_of_cell? w _ d1)).trans d1
      have c2 : wr.cell? ⟨b, o + k * 3 + 2, none⟩ = _ := (hbel.cell (World.block_lt_of_cell? w _ d2)).trans d2
      have q0 : wr.cell? ⟨b2, o2 + k * 3, none⟩ = _ := (hbel.cell (World.block_lt_of_cell? w _ e0)).trans e0
      have q1 : wr.cell? ⟨b2, o2 + k * 3 + 1, none⟩ = _ := (hbel.cell (World.block_lt_of_cell? w _ e1)).trans e1
      have q2 : wr.cell? ⟨b2, o2 + k * 3 + 2, none⟩ = _ := (hbel.cell (World.block_lt_of_cell? w _ e2)).trans e2
      have p1 : (k : Int) < (l.length : Int) := by omega
      have p0 : (0 : Int) ≤ (k : Int) := by omega
      have hneq := neq_self l[k].f l[k].m l[k].t
      generalize l[k].f = x0 at *
      generalize l[k].m = x1 at *
      generalize l[k].t = x2 at *
      have HB := hidR hbel
      clear d0 d1 d2 e0 e1 e2 hbel
      go_wp2_with fail
      go_region
      go_wp2
      go_roundw
      case rel => exact ⟨k + 1, by omega, by go_num, Sha.bel_drewN HB.out 1⟩
      case measure => simp [intOf]; omega
    · obtain rfl : k = l.length := by omega
      have HB := hidR hbel
      clear hbel
      go_wp2
      go_ret
      exact ⟨rfl, HB.out⟩
set_option maxHeartbeats 1000000 in
theorem equal_nil (u : Value) (l : List Del.Pc) (w : World) (h2 : Del.Ls w u l) :
    Calls Try.prog 38 #[.slice none 0 0, u] w fun e w' => e = .returned (.bool ((l.length : Int) == 0)) ∧ Below w.heap.size w w' := by
  obtain ⟨a2, cap2, rfl, hc2⟩ := h2.at
  clear hc2 h2
  by_cases h0 : l.length = 0
  · rw [h0]
    go_enter Try.func38, Try.ntmps38
    go_wp2
    go_loopw [13] (fun i wr => i = .int .i64 0 ∧ wr = w) (fun i _ => 0)
    case atStart => exact ⟨rfl, rfl⟩
    case round =>
      obtain ⟨rfl, rfl⟩ := hrel
      go_wp2
      go_ret
      exact ⟨rfl, Below.refl _ _⟩
  · have hb : ((l.length : Int) == 0) = false := by rw [beq_eq_false_iff_ne]; omega
    have hb2 : ((0 : Int) != (l.length : Int)) = true := by rw [bne_iff_ne]; omega
    rw [hb]
    go_enter Try.func38, Try.ntmps38
    go_wp2
    go_ret
    exact ⟨rfl, Below.refl _ _⟩
set_option maxHeartbeats 1000000 in
theorem sameOp_any (k : Int) (p : ByteArray) (m1 m2 : Int) (d1 d2 : ByteArray) (v u : Value) (z : Bool) (w : World)
    (KQ : ∀ W, Below w.heap.size w W → Calls Try.prog 38 #[v, u] W fun e w' => e = .returned (.bool z) ∧ Below W.heap.size W w') :
    Calls Try.prog 34 #[.agg #[.int .i64 k, .string p, .int .i64 m1, .string d1, v], .agg #[.int .i64 k, .string p, .int .i64 m2, .string d2, u]] w fun e w' => e = .returned (.bool (m1 == m2 && d1.toList == d2.toList && z)) ∧ Below w.heap.size w w' := by
  have HQ := hidR KQ
  have HB : Hid (Below w.heap.size w ((w.alloc (.cells #[.int .i64 k, .string p, .int .i64 m1, .string d1, v] 36)).alloc (.cells #[.int .i64 k, .string p, .int .i64 m2, .string d2, u] 36))) := ((Below.refl _ _).alloc (Nat.le_refl _) _).alloc (by simp) _
  clear KQ
  cases hm : (m1 == m2) <;> cases hd : (d1.toList == d2.toList)
  all_goals
    go_enter Try.func34, Try.ntmps34
    go_wp2_with fail
    first
      | (go_ret; exact ⟨rfl, HB.out⟩)
      | (refine (HQ.out _ HB.out).mono ?_; rintro e w1 ⟨rfl, hb1⟩; go_wp2; go_ret; exact ⟨by simp, bstep HB.out hb1⟩)
/-- what an op says -/
def putV (p : ByteArray) (m : Int) (d : ByteArray) : Value := .iface 72 (.agg #[.string p, .int .i64 m, .string d])
theorem changeOf_put (p : ByteArray) (m : Int) (d : ByteArray) (vs : Value) (w : World) : Calls Try.prog 33 #[.agg #[.int .i64 1, .string p, .int .i64 m, .string d, vs]] w fun e w' => e = .returned (putV p m d) ∧ Below w.heap.size w w' := by
  unfold putV
  go_enter Try.func33, Try.ntmps33
  go_wp2
  go_ret
  exact ⟨rfl, (Below.refl _ _).alloc (Nat.le_refl _) _⟩
def dropV (p : ByteArray) : Value := .iface 74 (.agg #[.string p])
theorem changeOf_drop (p : ByteArray) (m : Int) (d : ByteArray) (vs : Value) (w : World) : Calls Try.prog 33 #[.agg #[.int .i64 2, .string p, .int .i64 m, .string d, vs]] w fun e w' => e = .returned (dropV p) ∧ Below w.heap.size w w' := by
  unfold dropV
  go_enter Try.func33, Try.ntmps33
  go_wp2
  go_ret
  exact ⟨rfl, (Below.refl _ _).alloc (Nat.le_refl _) _⟩
def patchV (p : ByteArray) (m : Int) (vs : Value) : Value := .iface 76 (.agg #[.string p, .int .i64 m, vs])
theorem changeOf_patch (p : ByteArray) (m : Int) (d : ByteArray) (vs : Value) (w : World) (hv : ∃ a n c, vs = .slice a n c) : Calls Try.prog 33 #[.agg #[.int .i64 3, .string p, .int .i64 m, .string d, vs]] w fun e w' => e = .returned (patchV p m vs) ∧ Below w.heap.size w w' := by
  unfold patchV
  obtain ⟨a, n, c, rfl⟩ := hv
  go_enter Try.func33, Try.ntmps33
  go_wp2
  go_ret
  exact ⟨rfl, (Below.refl _ _).alloc (Nat.le_refl _) _⟩
theorem changeOf_none (k : Int) (p : ByteArray) (m : Int) (d : ByteArray) (vs : Value) (w : World) (h1 : (k == 1) = false) (h2 : (k == 2) = false) (h3 : (k == 3) = false) : Calls Try.prog 33 #[.agg #[.int .i64 k, .string p, .int .i64 m, .string d, vs]] w fun e w' => e = .returned .nilIface ∧ Below w.heap.size w w' := by
  go_enter Try.func33, Try.ntmps33
  go_wp2
  go_ret
  exact ⟨rfl, (Below.refl _ _).alloc (Nat.le_refl _) _⟩
theorem putRight (p : ByteArray) (m : Int) (d : ByteArray) (w : World) (hd : d.size ≤ maxLen) : Calls Try.prog 55 #[.agg #[.string p, .int .i64 m, .string d]] w fun e w' => e = .returned (.bool (fileR ⟨p, m, d⟩)) ∧ Below w.heap.size w w' := by
  have K : Hid (∀ W, Calls Try.prog 56 #[.agg #[.string p, .int .i64 m, .string d]] W fun e w' => e = .returned (.bool (fileR ⟨p, m, d⟩)) ∧ Below W.heap.size W w') := fun W => implFile_any ⟨p, m, d⟩ W hd
  generalize fileR ⟨p, m, d⟩ = z at *
  go_enter Try.func55, Try.ntmps55
  go_wp2_with fail
  refine (K.out _).mono ?_
  rintro e w1 ⟨rfl, hb1⟩
  go_wp2
  go_ret
  exact ⟨rfl, bstep ((Below.refl _ _).alloc (Nat.le_refl _) _) hb1⟩
theorem dropRight (p : ByteArray) (w : World) : Calls Try.prog 61 #[.agg #[.string p]] w fun e w' => e = .returned (.bool (pathR p)) ∧ Below w.heap.size w w' := by
  have K : Hid (∀ W, Calls Try.prog 57 #[.string p] W fun e w' => e = .returned (.bool (pathR p)) ∧ Below W.heap.size W w') := fun W => implPath_any p W
  generalize pathR p = z at *
  go_enter Try.func61, Try.ntmps61
  go_wp2_with fail
  refine (K.out _).mono ?_
  rintro e w1 ⟨rfl, hb1⟩
  go_wp2
  go_ret
  exact ⟨rfl, bstep ((Below.refl _ _).alloc (Nat.le_refl _) _) hb1⟩
set_option maxHeartbeats 1000000 in
theorem patchRight (p : ByteArray) (m : Int) (vs : Value) (l : List Del.Pc) (w : World) (h : Del.Ls w vs l) (hn : l.length ≤ maxLen) (hs : ∀ y ∈ l, Del.okSz y) : Calls Try.prog 63 #[.agg #[.string p, .int .i64 m, vs]] w fun e w' => e = .returned (.bool (fileR ⟨p, m, ByteArray.empty⟩ && Del.stepsR l)) ∧ Below w.heap.size w w' := by
  have K : Hid (∀ W, Calls Try.prog 56 #[.agg #[.string p, .int .i64 m, .string ByteArray.empty]] W fun e w' => e = .returned (.bool (fileR ⟨p, m, ByteArray.empty⟩)) ∧ Below W.heap.size W w') := fun W => implFile_any ⟨p, m, ByteArray.empty⟩ W (by simp)
  have K2 : Hid (∀ W, Del.Ls W vs l → Calls Try.prog 64 #[vs] W fun e w' => e = .returned (.bool (Del.stepsR l)) ∧ Below W.heap.size W w') := fun W hW => Del.implSteps_any vs l W hW hn hs
  obtain ⟨a, cap, rfl, _⟩ := h.at
  have HL := hidR h
  clear h hs
  generalize fileR ⟨p, m, ByteArray.empty⟩ = z at *
  generalize Del.stepsR l = z2 at *
  have HB : Hid (Below w.heap.size w (w.alloc (.cells #[.string p, .int .i64 m, .slice a l.length cap] 76))) := (Below.refl _ _).alloc (Nat.le_refl _) _
  cases z
  all_goals
    go_enter Try.func63, Try.ntmps63
    go_wp2_with fail
    refine (K.out _).mono ?_
    rintro e w1 ⟨rfl, hb1⟩
    obtain ⟨hcc, hff⟩ := bcell hb1
    simp at hcc hff
    have HB1 := hidR (bstep HB.out hb1)
    have HL1 := hidR ((HL.out.below HB.out).below hb1)
    clear hb1
    go_wp2_with fail
    first
      | (go_ret; exact ⟨by simp, HB1.out⟩)
      | (refine (K2.out _ HL1.out).mono ?_; rintro e w2 ⟨rfl, hb2⟩; go_wp2; go_ret; exact ⟨by simp, bstep HB1.out hb2⟩)
theorem putOp (p : ByteArray) (m : Int) (d : ByteArray) (w : World) : Calls Try.prog 54 #[.agg #[.string p, .int .i64 m, .string d]] w fun e w' => e = .returned (.agg #[.int .i64 1, .string p, .int .i64 m, .string d, .slice none 0 0]) ∧ Below w.heap.size w w' := by
  go_enter Try.func54, Try.ntmps54
  go_wp2
  exact bodyPost_ret (v := .agg #[.int .i64 1, .string p, .int .i64 m, .string d, .slice none 0 0]) (by simp [results, Try.results54, go_sem]) rfl ⟨rfl, ((Below.refl _ _).alloc (Nat.le_refl _) _).alloc (by simp) _⟩
theorem dropOp (p : ByteArray) (w : World) : Calls Try.prog 60 #[.agg #[.string p]] w fun e w' => e = .returned (.agg #[.int .i64 2, .string p, .int .i64 0, .string ByteArray.empty, .slice none 0 0]) ∧ Below w.heap.size w w' := by
  go_enter Try.func60, Try.ntmps60
  go_wp2
  exact bodyPost_ret (v := .agg #[.int .i64 2, .string p, .int .i64 0, .string ByteArray.empty, .slice none 0 0]) (by simp [results, Try.results60, go_sem, Del.empty_lit]) rfl ⟨rfl, ((Below.refl _ _).alloc (Nat.le_refl _) _).alloc (by simp) _⟩
theorem patchOp (p : ByteArray) (m : Int) (vs : Value) (l : List Del.Pc) (w : World) (h : Del.Ls w vs l) : Calls Try.prog 62 #[.agg #[.string p, .int .i64 m, vs]] w fun e w' => e = .returned (.agg #[.int .i64 3, .string p, .int .i64 m, .string ByteArray.empty, vs]) ∧ Below w.heap.size w w' := by
  obtain ⟨a, cap, rfl, _⟩ := h.at
  clear h
  go_enter Try.func62, Try.ntmps62
  go_wp2
  exact bodyPost_ret (v := .agg #[.int .i64 3, .string p, .int .i64 m, .string ByteArray.empty, .slice a l.length cap]) (by simp [results, Try.results62, go_sem, Del.empty_lit]) rfl ⟨rfl, ((Below.refl _ _).alloc (Nat.le_refl _) _).alloc (by simp) _⟩
theorem methodPutR (v : Value) (w : World) : (Go.method 196 72 v "loop.example/g00626/impl.right").run Try.prog w = .ok (55, v) w := by kernel_rfl
theorem methodPutO (v : Value) (w : World) : (Go.method 196 72 v "loop.example/g00626/impl.op").run Try.prog w = .ok (54, v) w := by kernel_rfl
theorem methodDropR (v : Value) (w : World) : (Go.method 196 74 v "loop.example/g00626/impl.right").run Try.prog w = .ok (61, v) w := by kernel_rfl
theorem methodDropO (v : Value) (w : World) : (Go.method 196 74 v "loop.example/g00626/impl.op").run Try.prog w = .ok (60, v) w := by kernel_rfl
theorem methodPatchR (v : Value) (w : World) : (Go.method 196 76 v "loop.example/g00626/impl.right").run Try.prog w = .ok (63, v) w := by kernel_rfl
theorem methodPatchO (v : Value) (w : World) : (Go.method 196 76 v "loop.example/g00626/impl.op").run Try.prog w = .ok (62, v) w := by kernel_rfl
theorem fileR_put (p : ByteArray) (m : Int) (d : ByteArray) : fileR ⟨p, m, d⟩ = (pathR p && (decide (0 ≤ m) && decide (m ≤ 511)) && decide (d.size ≤ 80)) := rfl
theorem eq_empty (d : ByteArray) : (ByteArray.empty.toList == d.toList) = d.toList.isEmpty := by
  have e : ByteArray.empty.toList = [] := by simp
  rw [e]
  cases d.toList <;> rfl
set_option maxRecDepth 100000 in
set_option maxHeartbeats 4000000 in
theorem implOp_any (v : Value) (x : Ox) (w : World) (h : OV w v x) (hs : okSz x) : Calls Try.prog 23 #[v] w fun e w' => e = .returned (.bool (opR x)) ∧ Below w.heap.size w w' := by
  obtain ⟨vs, rfl, hl⟩ := h
  obtain ⟨a, cap, hva, _⟩ := hl.at
  have hvs : ∃ a n c, vs = .slice a n c := ⟨a, _, cap, hva⟩
  have HVS := hidR hvs
  have HL := hidR hl
  have KE : Hid (∀ W, Del.Ls W vs x.s → Calls Try.prog 38 #[.slice none 0 0, vs] W fun e w' => e = .returned (.bool ((x.s.length : Int) == 0)) ∧ Below W.heap.size W w') := fun W hW => equal_nil vs x.s W hW
  have KE2 : Hid (∀ W, Del.Ls W vs x.s → Calls Try.prog 38 #[vs, vs] W fun e w' => e = .returned (.bool true) ∧ Below W.heap.size W w') := fun W hW => equal_same vs vs x.s W hW hW hs.2.2.1
  have HOK := hidR hs
  obtain ⟨R, hR⟩ : ∃ R, R = opR x := ⟨_, rfl⟩
  rw [← hR]
  obtain ⟨y0, y1, y2, y3, li⟩ := x
  dsimp only at *
  have HR := hidR hR
  clear hs hvs hl hR hva
  have HB : Hid (Below w.heap.size w (w.alloc (.cells #[.int .i64 y0, .string y1, .int .i64 y2, .string y3, vs] 36))) := (Below.refl _ _).alloc (Nat.le_refl _) _
  by_cases k1 : y0 = 1
  · subst k1
    have HN : Hid (R = (fileR ⟨y1, y2, y3⟩ && ((y2 == y2) && (y3.toList == y3.toList) && ((li.length : Int) == 0)))) := by
      rw [HR.out, fileR_put]
      show _ = _
      unfold opR
      rw [isEmpty_len]
      simp [Bool.and_assoc]
    have K1 := hidR (fun W => changeOf_put y1 y2 y3 vs W)
    have K2 := hidR (fun W => putRight y1 y2 y3 W HOK.out.2.1)
    have K3 := hidR (fun W => putOp y1 y2 y3 W)
    have K4 : Hid (∀ W, Below w.heap.size w W → Calls Try.prog 34 #[.agg #[.int .i64 1, .string y1, .int .i64 y2, .string y3, .slice none 0 0], .agg #[.int .i64 1, .string y1, .int .i64 y2, .string y3, vs]] W fun e w' => e = .returned (.bool ((y2 == y2) && (y3.toList == y3.toList) && ((li.length : Int) == 0))) ∧ Below W.heap.size W w') := fun W hW => sameOp_any 1 y1 y2 y2 y3 y3 (.slice none 0 0) vs _ W (fun W2 h2 => KE.out W2 ((HL.out.below hW).below h2))
    have hm1 := methodPutR (.agg #[.string y1, .int .i64 y2, .string y3])
    have hm2 := methodPutO (.agg #[.string y1, .int .i64 y2, .string y3])
    clear HR KE KE2 HOK
    generalize fileR ⟨y1, y2, y3⟩ = z at *
    generalize ((y2 == y2) && (y3.toList == y3.toList) && ((li.length : Int) == 0)) = z2 at *
    unfold putV at K1
    cases z
    · skip
      go_enter Try.func23, Try.ntmps23
      go_wp2_with fail
      refine (K1.out _).mono ?_
      rintro e w1 ⟨rfl, hb1⟩
      have HBc := hidR (bstep HB.out hb1)
      have HLT : Hid (w.heap.size < w1.heap.size) := by have := hb1.size; simp at this; show _ < _; omega
      have kQ : w1.cell? ⟨w.heap.size, 0, none⟩ = some (.int .i64 1) ∧ w1.cell? ⟨w.heap.size, 1, none⟩ = some (.string y1) ∧ w1.cell? ⟨w.heap.size, 2, none⟩ = some (.int .i64 y2) ∧ w1.cell? ⟨w.heap.size, 3, none⟩ = some (.string y3) ∧ w1.cell? ⟨w.heap.size, 4, none⟩ = some vs := ⟨(hb1.cell (p := ⟨w.heap.size, 0, none⟩) (by simp)).trans (by simp), (hb1.cell (p := ⟨w.heap.size, 1, none⟩) (by simp)).trans (by simp), (hb1.cell (p := ⟨w.heap.size, 2, none⟩) (by simp)).trans (by simp), (hb1.cell (p := ⟨w.heap.size, 3, none⟩) (by simp)).trans (by simp), (hb1.cell (p := ⟨w.heap.size, 4, none⟩) (by simp)).trans (by simp)⟩
      clear hb1
      go_wp2_with fail
      go_region_held3 (fun W => W.cell? ⟨w.heap.size, 0, none⟩ = some (.int .i64 1) ∧ W.cell? ⟨w.heap.size, 1, none⟩ = some (.string y1) ∧ W.cell? ⟨w.heap.size, 2, none⟩ = some (.int .i64 y2) ∧ W.cell? ⟨w.heap.size, 3, none⟩ = some (.string y3) ∧ W.cell? ⟨w.heap.size, 4, none⟩ = some vs)
        (first
          | go_keep
          | (exact kQ))
        (first
          | (go_at_call 55; refine (K2.out _).mono ?_; rintro e w2 ⟨rfl, hb2⟩; (have kQn : w2.cell? ⟨w.heap.size, 0, none⟩ = some (.int .i64 1) ∧ w2.cell? ⟨w.heap.size, 1, none⟩ = some (.string y1) ∧ w2.cell? ⟨w.heap.size, 2, none⟩ = some (.int .i64 y2) ∧ w2.cell? ⟨w.heap.size, 3, none⟩ = some (.string y3) ∧ w2.cell? ⟨w.heap.size, 4, none⟩ = some vs := ⟨(hb2.cell (p := ⟨w.heap.size, 0, none⟩) HLT.out).trans kQ.1, (hb2.cell (p := ⟨w.heap.size, 1, none⟩) HLT.out).trans kQ.2.1, (hb2.cell (p := ⟨w.heap.size, 2, none⟩) HLT.out).trans kQ.2.2.1, (hb2.cell (p := ⟨w.heap.size, 3, none⟩) HLT.out).trans kQ.2.2.2.1, (hb2.cell (p := ⟨w.heap.size, 4, none⟩) HLT.out).trans kQ.2.2.2.2⟩); (have HBn := hidR (HBc.out.drew.trans (hb2.mono HBc.out.drew.size))); (have HLTn : Hid (w.heap.size < w2.heap.size) := Nat.lt_of_lt_of_le HLT.out hb2.size); clear hb2 HLT HBc kQ; (have HLT := HLTn); (have HBc := HBn); (have kQ := kQn); clear HLTn HBn kQn; simp only [CutCall.shut_cut] at *))
      unfold Hid
      refine wpAnyH_take (i := 5) (v := ?_) rfl (by kernel_rfl) (by kernel_rfl) (by kernel_rfl) (fun _ _ _ h => h) (Or.inl ⟨by rfl, ?_⟩) kQ ?_
      rotate_left
      · (intro w9 hS9; (try dsimp only at hS9); go_simp; (try with_reducible rfl))
      simp only [List.getElem_toArray, List.getElem_cons_succ, List.getElem_cons_zero, Act.put, List.setIfInBounds_toArray, List.set_cons_zero, List.set_cons_succ]
      refine wpAnyH_take (i := 6) (v := ?_) rfl (by kernel_rfl) (by kernel_rfl) (by kernel_rfl) (fun _ _ _ h => h) (Or.inl ⟨by rfl, ?_⟩) kQ ?_
      rotate_left
      · (intro w9 hS9; (try dsimp only at hS9); go_simp; (try with_reducible rfl))
      simp only [List.getElem_toArray, List.getElem_cons_succ, List.getElem_cons_zero, Act.put, List.setIfInBounds_toArray, List.set_cons_zero, List.set_cons_succ]
      refine wpAnyH_take (i := 7) (v := _) rfl (by kernel_rfl) (by kernel_rfl) (by kernel_rfl) (fun _ _ _ h => h) (Or.inr ⟨by rfl, rfl⟩) kQ ?_
      simp only [List.getElem_toArray, List.getElem_cons_succ, List.getElem_cons_zero, Act.put, List.setIfInBounds_toArray, List.set_cons_zero, List.set_cons_succ]
      refine wpAnyH_take (i := 8) (v := _) rfl (by kernel_rfl) (by kernel_rfl) (by kernel_rfl) (fun _ _ _ h => h) (Or.inr ⟨by rfl, rfl⟩) kQ ?_
      simp only [List.getElem_toArray, List.getElem_cons_succ, List.getElem_cons_zero, Act.put, List.setIfInBounds_toArray, List.set_cons_zero, List.set_cons_succ]
      refine wpAnyH_take (i := 9) (v := _) rfl (by kernel_rfl) (by kernel_rfl) (by kernel_rfl) (fun _ _ _ h => h) (Or.inr ⟨by rfl, rfl⟩) kQ ?_
      simp only [List.getElem_toArray, List.getElem_cons_succ, List.getElem_cons_zero, Act.put, List.setIfInBounds_toArray, List.set_cons_zero, List.set_cons_succ]
      refine wpAnyH_take (i := 10) (v := _) rfl (by kernel_rfl) (by kernel_rfl) (by kernel_rfl) (fun _ _ _ h => h) (Or.inr ⟨by rfl, rfl⟩) kQ ?_
      simp only [List.getElem_toArray, List.getElem_cons_succ, List.getElem_cons_zero, Act.put, List.setIfInBounds_toArray, List.set_cons_zero, List.set_cons_succ]
      refine wpAnyH_take (i := 11) (v := ?_) rfl (by kernel_rfl) (by kernel_rfl) (by kernel_rfl) (fun _ _ _ h => h) (Or.inl ⟨by rfl, ?_⟩) kQ ?_
      rotate_left
      · (intro w9 hS9; (try dsimp only at hS9); go_simp; (try with_reducible rfl))
      simp only [List.getElem_toArray, List.getElem_cons_succ, List.getElem_cons_zero, Act.put, List.setIfInBounds_toArray, List.set_cons_zero, List.set_cons_succ]
      refine wpAnyH_take (i := 12) (v := ?_) rfl (by kernel_rfl) (by kernel_rfl) (by kernel_rfl) (fun _ _ _ h => h) (Or.inl ⟨by rfl, ?_⟩) kQ ?_
      rotate_left
      · (intro w9 hS9; (try dsimp only at hS9); go_simp; (try with_reducible rfl))
      simp only [List.getElem_toArray, List.getElem_cons_succ, List.getElem_cons_zero, Act.put, List.setIfInBounds_toArray, List.set_cons_zero, List.set_cons_succ]
      refine wpAnyH_done (by kernel_rfl) ?_ _
      refine NoPanic.normal ?_
      go_wp2
      go_ret
      exact ⟨by rw [HN.out]; simp, HBc.out⟩
    · skip
      go_enter Try.func23, Try.ntmps23
      go_wp2_with fail
      refine (K1.out _).mono ?_
      rintro e w1 ⟨rfl, hb1⟩
      have HBc := hidR (bstep HB.out hb1)
      have HLT : Hid (w.heap.size < w1.heap.size) := by have := hb1.size; simp at this; show _ < _; omega
      have kQ : w1.cell? ⟨w.heap.size, 0, none⟩ = some (.int .i64 1) ∧ w1.cell? ⟨w.heap.size, 1, none⟩ = some (.string y1) ∧ w1.cell? ⟨w.heap.size, 2, none⟩ = some (.int .i64 y2) ∧ w1.cell? ⟨w.heap.size, 3, none⟩ = some (.string y3) ∧ w1.cell? ⟨w.heap.size, 4, none⟩ = some vs := ⟨(hb1.cell (p := ⟨w.heap.size, 0, none⟩) (by simp)).trans (by simp), (hb1.cell (p := ⟨w.heap.size, 1, none⟩) (by simp)).trans (by simp), (hb1.cell (p := ⟨w.heap.size, 2, none⟩) (by simp)).trans (by simp), (hb1.cell (p := ⟨w.heap.size, 3, none⟩) (by simp)).trans (by simp), (hb1.cell (p := ⟨w.heap.size, 4, none⟩) (by simp)).trans (by simp)⟩
      clear hb1
      go_wp2_with fail
      go_region_held3 (fun W => W.cell? ⟨w.heap.size, 0, none⟩ = some (.int .i64 1) ∧ W.cell? ⟨w.heap.size, 1, none⟩ = some (.string y1) ∧ W.cell? ⟨w.heap.size, 2, none⟩ = some (.int .i64 y2) ∧ W.cell? ⟨w.heap.size, 3, none⟩ = some (.string y3) ∧ W.cell? ⟨w.heap.size, 4, none⟩ = some vs)
        (first
          | go_keep
          | (exact kQ))
        (first
          | (go_at_call 55; refine (K2.out _).mono ?_; rintro e w2 ⟨rfl, hb2⟩; (have kQn : w2.cell? ⟨w.heap.size, 0, none⟩ = some (.int .i64 1) ∧ w2.cell? ⟨w.heap.size, 1, none⟩ = some (.string y1) ∧ w2.cell? ⟨w.heap.size, 2, none⟩ = some (.int .i64 y2) ∧ w2.cell? ⟨w.heap.size, 3, none⟩ = some (.string y3) ∧ w2.cell? ⟨w.heap.size, 4, none⟩ = some vs := ⟨(hb2.cell (p := ⟨w.heap.size, 0, none⟩) HLT.out).trans kQ.1, (hb2.cell (p := ⟨w.heap.size, 1, none⟩) HLT.out).trans kQ.2.1, (hb2.cell (p := ⟨w.heap.size, 2, none⟩) HLT.out).trans kQ.2.2.1, (hb2.cell (p := ⟨w.heap.size, 3, none⟩) HLT.out).trans kQ.2.2.2.1, (hb2.cell (p := ⟨w.heap.size, 4, none⟩) HLT.out).trans kQ.2.2.2.2⟩); (have HBn := hidR (HBc.out.drew.trans (hb2.mono HBc.out.drew.size))); (have HLTn : Hid (w.heap.size < w2.heap.size) := Nat.lt_of_lt_of_le HLT.out hb2.size); clear hb2 HLT HBc kQ; (have HLT := HLTn); (have HBc := HBn); (have kQ := kQn); clear HLTn HBn kQn)
          | (go_at_call 54; refine (K3.out _).mono ?_; rintro e w3 ⟨rfl, hb2⟩; (have kQn : w3.cell? ⟨w.heap.size, 0, none⟩ = some (.int .i64 1) ∧ w3.cell? ⟨w.heap.size, 1, none⟩ = some (.string y1) ∧ w3.cell? ⟨w.heap.size, 2, none⟩ = some (.int .i64 y2) ∧ w3.cell? ⟨w.heap.size, 3, none⟩ = some (.string y3) ∧ w3.cell? ⟨w.heap.size, 4, none⟩ = some vs := ⟨(hb2.cell (p := ⟨w.heap.size, 0, none⟩) HLT.out).trans kQ.1, (hb2.cell (p := ⟨w.heap.size, 1, none⟩) HLT.out).trans kQ.2.1, (hb2.cell (p := ⟨w.heap.size, 2, none⟩) HLT.out).trans kQ.2.2.1, (hb2.cell (p := ⟨w.heap.size, 3, none⟩) HLT.out).trans kQ.2.2.2.1, (hb2.cell (p := ⟨w.heap.size, 4, none⟩) HLT.out).trans kQ.2.2.2.2⟩); (have HBn := hidR (HBc.out.trans (hb2.mono HBc.out.size))); (have HLTn : Hid (w.heap.size < w3.heap.size) := Nat.lt_of_lt_of_le HLT.out hb2.size); clear hb2 HLT HBc kQ; (have HLT := HLTn); (have HBc := HBn); (have kQ := kQn); clear HLTn HBn kQn)
          | (go_at_call 34; refine (K4.out _ HBc.out).mono ?_; rintro e w4 ⟨rfl, hb2⟩; (have kQn : w4.cell? ⟨w.heap.size, 0, none⟩ = some (.int .i64 1) ∧ w4.cell? ⟨w.heap.size, 1, none⟩ = some (.string y1) ∧ w4.cell? ⟨w.heap.size, 2, none⟩ = some (.int .i64 y2) ∧ w4.cell? ⟨w.heap.size, 3, none⟩ = some (.string y3) ∧ w4.cell? ⟨w.heap.size, 4, none⟩ = some vs := ⟨(hb2.cell (p := ⟨w.heap.size, 0, none⟩) HLT.out).trans kQ.1, (hb2.cell (p := ⟨w.heap.size, 1, none⟩) HLT.out).trans kQ.2.1, (hb2.cell (p := ⟨w.heap.size, 2, none⟩) HLT.out).trans kQ.2.2.1, (hb2.cell (p := ⟨w.heap.size, 3, none⟩) HLT.out).trans kQ.2.2.2.1, (hb2.cell (p := ⟨w.heap.size, 4, none⟩) HLT.out).trans kQ.2.2.2.2⟩); (have HBn := hidR (HBc.out.trans (hb2.mono HBc.out.size))); (have HLTn : Hid (w.heap.size < w4.heap.size) := Nat.lt_of_lt_of_le HLT.out hb2.size); clear hb2 HLT HBc kQ; (have HLT := HLTn); (have HBc := HBn); (have kQ := kQn); clear HLTn HBn kQn; simp only [CutCall.shut_cut] at *))
      unfold Hid
      refine wpAnyH_take (i := 11) (v := ?_) rfl (by kernel_rfl) (by kernel_rfl) (by kernel_rfl) (fun _ _ _ h => h) (Or.inl ⟨by rfl, ?_⟩) kQ ?_
      rotate_left
      · (intro w9 hS9; (try dsimp only at hS9); go_simp; (try with_reducible rfl))
      simp only [List.getElem_toArray, List.getElem_cons_succ, List.getElem_cons_zero, Act.put, List.setIfInBounds_toArray, List.set_cons_zero, List.set_cons_succ]
      refine wpAnyH_take (i := 12) (v := ?_) rfl (by kernel_rfl) (by kernel_rfl) (by kernel_rfl) (fun _ _ _ h => h) (Or.inl ⟨by rfl, ?_⟩) kQ ?_
      rotate_left
      · (intro w9 hS9; (try dsimp only at hS9); go_simp; (try with_reducible rfl))
      simp only [List.getElem_toArray, List.getElem_cons_succ, List.getElem_cons_zero, Act.put, List.setIfInBounds_toArray, List.set_cons_zero, List.set_cons_succ]
      refine wpAnyH_done (by kernel_rfl) ?_ _
      refine NoPanic.normal ?_
      go_wp2
      go_ret
      exact ⟨by rw [HN.out]; simp, HBc.out⟩
  · by_cases k2 : y0 = 2
    · subst k2
      clear k1
      have HN : Hid (R = (pathR y1 && (((0 : Int) == y2) && (ByteArray.empty.toList == y3.toList) && ((li.length : Int) == 0)))) := by
        rw [HR.out, eq_empty]
        show _ = _
        unfold opR
        rw [isEmpty_len]
        by_cases hm : y2 = 0
        · subst hm; simp
        · have h1 : ((0 : Int) == y2) = false := by rw [beq_eq_false_iff_ne]; omega
          have h2 : (y2 == (0 : Int)) = false := by rw [beq_eq_false_iff_ne]; omega
          simp [h1, h2]
      have K1 := hidR (fun W => changeOf_drop y1 y2 y3 vs W)
      have K2 := hidR (fun W => dropRight y1 W)
      have K3 := hidR (fun W => dropOp y1 W)
      have K4 : Hid (∀ W, Below w.heap.size w W → Calls Try.prog 34 #[.agg #[.int .i64 2, .string y1, .int .i64 0, .string ByteArray.empty, .slice none 0 0], .agg #[.int .i64 2, .string y1, .int .i64 y2, .string y3, vs]] W fun e w' => e = .returned (.bool (((0 : Int) == y2) && (ByteArray.empty.toList == y3.toList) && ((li.length : Int) == 0))) ∧ Below W.heap.size W w') := fun W hW => sameOp_any 2 y1 0 y2 ByteArray.empty y3 (.slice none 0 0) vs _ W (fun W2 h2 => KE.out W2 ((HL.out.below hW).below h2))
      have hm1 := methodDropR (.agg #[.string y1])
      have hm2 := methodDropO (.agg #[.string y1])
      clear HR KE KE2 HOK
      generalize pathR y1 = z at *
      generalize (((0 : Int) == y2) && (ByteArray.empty.toList == y3.toList) && ((li.length : Int) == 0)) = z2 at *
      unfold dropV at K1
      cases z
      · skip
        go_enter Try.func23, Try.ntmps23
        go_wp2_with fail
        refine (K1.out _).mono ?_
        rintro e w1 ⟨rfl, hb1⟩
        have HBc := hidR (bstep HB.out hb1)
        have HLT : Hid (w.heap.size < w1.heap.size) := by have := hb1.size; simp at this; show _ < _; omega
        have kQ : w1.cell? ⟨w.heap.size, 0, none⟩ = some (.int .i64 2) ∧ w1.cell? ⟨w.heap.size, 1, none⟩ = some (.string y1) ∧ w1.cell? ⟨w.heap.size, 2, none⟩ = some (.int .i64 y2) ∧ w1.cell? ⟨w.heap.size, 3, none⟩ = some (.string y3) ∧ w1.cell? ⟨w.heap.size, 4, none⟩ = some vs := ⟨(hb1.cell (p := ⟨w.heap.size, 0, none⟩) (by simp)).trans (by simp), (hb1.cell (p := ⟨w.heap.size, 1, none⟩) (by simp)).trans (by simp), (hb1.cell (p := ⟨w.heap.size, 2, none⟩) (by simp)).trans (by simp), (hb1.cell (p := ⟨w.heap.size, 3, none⟩) (by simp)).trans (by simp), (hb1.cell (p := ⟨w.heap.size, 4, none⟩) (by simp)).trans (by simp)⟩
        clear hb1
        go_wp2_with fail
        go_region_held3 (fun W => W.cell? ⟨w.heap.size, 0, none⟩ = some (.int .i64 2) ∧ W.cell? ⟨w.heap.size, 1, none⟩ = some (.string y1) ∧ W.cell? ⟨w.heap.size, 2, none⟩ = some (.int .i64 y2) ∧ W.cell? ⟨w.heap.size, 3, none⟩ = some (.string y3) ∧ W.cell? ⟨w.heap.size, 4, none⟩ = some vs)
          (first
            | go_keep
            | (exact kQ))
          (first
            | (go_at_call 61; refine (K2.out _).mono ?_; rintro e w2 ⟨rfl, hb2⟩; (have kQn : w2.cell? ⟨w.heap.size, 0, none⟩ = some (.int .i64 2) ∧ w2.cell? ⟨w.heap.size, 1, none⟩ = some (.string y1) ∧ w2.cell? ⟨w.heap.size, 2, none⟩ = some (.int .i64 y2) ∧ w2.cell? ⟨w.heap.size, 3, none⟩ = some (.string y3) ∧ w2.cell? ⟨w.heap.size, 4, none⟩ = some vs := ⟨(hb2.cell (p := ⟨w.heap.size, 0, none⟩) HLT.out).trans kQ.1, (hb2.cell (p := ⟨w.heap.size, 1, none⟩) HLT.out).trans kQ.2.1, (hb2.cell (p := ⟨w.heap.size, 2, none⟩) HLT.out).trans kQ.2.2.1, (hb2.cell (p := ⟨w.heap.size, 3, none⟩) HLT.out).trans kQ.2.2.2.1, (hb2.cell (p := ⟨w.heap.size, 4, none⟩) HLT.out).trans kQ.2.2.2.2⟩); (have HBn := hidR (HBc.out.drew.trans (hb2.mono HBc.out.drew.size))); (have HLTn : Hid (w.heap.size < w2.heap.size) := Nat.lt_of_lt_of_le HLT.out hb2.size); clear hb2 HLT HBc kQ; (have HLT := HLTn); (have HBc := HBn); (have kQ := kQn); clear HLTn HBn kQn; simp only [CutCall.shut_cut] at *))
        unfold Hid
        refine wpAnyH_take (i := 5) (v := ?_) rfl (by kernel_rfl) (by kernel_rfl) (by kernel_rfl) (fun _ _ _ h => h) (Or.inl ⟨by rfl, ?_⟩) kQ ?_
        rotate_left
        · (intro w9 hS9; (try dsimp only at hS9); go_simp; (try with_reducible rfl))
        simp only [List.getElem_toArray, List.getElem_cons_succ, List.getElem_cons_zero, Act.put, List.setIfInBounds_toArray, List.set_cons_zero, List.set_cons_succ]
        refine wpAnyH_take (i := 6) (v := ?_) rfl (by kernel_rfl) (by kernel_rfl) (by kernel_rfl) (fun _ _ _ h => h) (Or.inl ⟨by rfl, ?_⟩) kQ ?_
        rotate_left
        · (intro w9 hS9; (try dsimp only at hS9); go_simp; (try with_reducible rfl))
        simp only [List.getElem_toArray, List.getElem_cons_succ, List.getElem_cons_zero, Act.put, List.setIfInBounds_toArray, List.set_cons_zero, List.set_cons_succ]
        refine wpAnyH_take (i := 7) (v := _) rfl (by kernel_rfl) (by kernel_rfl) (by kernel_rfl) (fun _ _ _ h => h) (Or.inr ⟨by rfl, rfl⟩) kQ ?_
        simp only [List.getElem_toArray, List.getElem_cons_succ, List.getElem_cons_zero, Act.put, List.setIfInBounds_toArray, List.set_cons_zero, List.set_cons_succ]
        refine wpAnyH_take (i := 8) (v := _) rfl (by kernel_rfl) (by kernel_rfl) (by kernel_rfl) (fun _ _ _ h => h) (Or.inr ⟨by rfl, rfl⟩) kQ ?_
        simp only [List.getElem_toArray, List.getElem_cons_succ, List.getElem_cons_zero, Act.put, List.setIfInBounds_toArray, List.set_cons_zero, List.set_cons_succ]
        refine wpAnyH_take (i := 9) (v := _) rfl (by kernel_rfl) (by kernel_rfl) (by kernel_rfl) (fun _ _ _ h => h) (Or.inr ⟨by rfl, rfl⟩) kQ ?_
        simp only [List.getElem_toArray, List.getElem_cons_succ, List.getElem_cons_zero, Act.put, List.setIfInBounds_toArray, List.set_cons_zero, List.set_cons_succ]
        refine wpAnyH_take (i := 10) (v := _) rfl (by kernel_rfl) (by kernel_rfl) (by kernel_rfl) (fun _ _ _ h => h) (Or.inr ⟨by rfl, rfl⟩) kQ ?_
        simp only [List.getElem_toArray, List.getElem_cons_succ, List.getElem_cons_zero, Act.put, List.setIfInBounds_toArray, List.set_cons_zero, List.set_cons_succ]
        refine wpAnyH_take (i := 11) (v := ?_) rfl (by kernel_rfl) (by kernel_rfl) (by kernel_rfl) (fun _ _ _ h => h) (Or.inl ⟨by rfl, ?_⟩) kQ ?_
        rotate_left
        · (intro w9 hS9; (try dsimp only at hS9); go_simp; (try with_reducible rfl))
        simp only [List.getElem_toArray, List.getElem_cons_succ, List.getElem_cons_zero, Act.put, List.setIfInBounds_toArray, List.set_cons_zero, List.set_cons_succ]
        refine wpAnyH_take (i := 12) (v := ?_) rfl (by kernel_rfl) (by kernel_rfl) (by kernel_rfl) (fun _ _ _ h => h) (Or.inl ⟨by rfl, ?_⟩) kQ ?_
        rotate_left
        · (intro w9 hS9; (try dsimp only at hS9); go_simp; (try with_reducible rfl))
        simp only [List.getElem_toArray, List.getElem_cons_succ, List.getElem_cons_zero, Act.put, List.setIfInBounds_toArray, List.set_cons_zero, List.set_cons_succ]
        refine wpAnyH_done (by kernel_rfl) ?_ _
        refine NoPanic.normal ?_
        go_wp2
        go_ret
        exact ⟨by rw [HN.out]; simp, HBc.out⟩
      · skip
        go_enter Try.func23, Try.ntmps23
        go_wp2_with fail
        refine (K1.out _).mono ?_
        rintro e w1 ⟨rfl, hb1⟩
        have HBc := hidR (bstep HB.out hb1)
        have HLT : Hid (w.heap.size < w1.heap.size) := by have := hb1.size; simp at this; show _ < _; omega
        have kQ : w1.cell? ⟨w.heap.size, 0, none⟩ = some (.int .i64 2) ∧ w1.cell? ⟨w.heap.size, 1, none⟩ = some (.string y1) ∧ w1.cell? ⟨w.heap.size, 2, none⟩ = some (.int .i64 y2) ∧ w1.cell? ⟨w.heap.size, 3, none⟩ = some (.string y3) ∧ w1.cell? ⟨w.heap.size, 4, none⟩ = some vs := ⟨(hb1.cell (p := ⟨w.heap.size, 0, none⟩) (by simp)).trans (by simp), (hb1.cell (p := ⟨w.heap.size, 1, none⟩) (by simp)).trans (by simp), (hb1.cell (p := ⟨w.heap.size, 2, none⟩) (by simp)).trans (by simp), (hb1.cell (p := ⟨w.heap.size, 3, none⟩) (by simp)).trans (by simp), (hb1.cell (p := ⟨w.heap.size, 4, none⟩) (by simp)).trans (by simp)⟩
        clear hb1
        go_wp2_with fail
        go_region_held3 (fun W => W.cell? ⟨w.heap.size, 0, none⟩ = some (.int .i64 2) ∧ W.cell? ⟨w.heap.size, 1, none⟩ = some (.string y1) ∧ W.cell? ⟨w.heap.size, 2, none⟩ = some (.int .i64 y2) ∧ W.cell? ⟨w.heap.size, 3, none⟩ = some (.string y3) ∧ W.cell? ⟨w.heap.size, 4, none⟩ = some vs)
          (first
            | go_keep
            | (exact kQ))
          (first
            | (go_at_call 61; refine (K2.out _).mono ?_; rintro e w2 ⟨rfl, hb2⟩; (have kQn : w2.cell? ⟨w.heap.size, 0, none⟩ = some (.int .i64 2) ∧ w2.cell? ⟨w.heap.size, 1, none⟩ = some (.string y1) ∧ w2.cell? ⟨w.heap.size, 2, none⟩ = some (.int .i64 y2) ∧ w2.cell? ⟨w.heap.size, 3, none⟩ = some (.string y3) ∧ w2.cell? ⟨w.heap.size, 4, none⟩ = some vs := ⟨(hb2.cell (p := ⟨w.heap.size, 0, none⟩) HLT.out).trans kQ.1, (hb2.cell (p := ⟨w.heap.size, 1, none⟩) HLT.out).trans kQ.2.1, (hb2.cell (p := ⟨w.heap.size, 2, none⟩) HLT.out).trans kQ.2.2.1, (hb2.cell (p := ⟨w.heap.size, 3, none⟩) HLT.out).trans kQ.2.2.2.1, (hb2.cell (p := ⟨w.heap.size, 4, none⟩) HLT.out).trans kQ.2.2.2.2⟩); (have HBn := hidR (HBc.out.drew.trans (hb2.mono HBc.out.drew.size))); (have HLTn : Hid (w.heap.size < w2.heap.size) := Nat.lt_of_lt_of_le HLT.out hb2.size); clear hb2 HLT HBc kQ; (have HLT := HLTn); (have HBc := HBn); (have kQ := kQn); clear HLTn HBn kQn)
            | (go_at_call 60; refine (K3.out _).mono ?_; rintro e w3 ⟨rfl, hb2⟩; (have kQn : w3.cell? ⟨w.heap.size, 0, none⟩ = some (.int .i64 2) ∧ w3.cell? ⟨w.heap.size, 1, none⟩ = some (.string y1) ∧ w3.cell? ⟨w.heap.size, 2, none⟩ = some (.int .i64 y2) ∧ w3.cell? ⟨w.heap.size, 3, none⟩ = some (.string y3) ∧ w3.cell? ⟨w.heap.size, 4, none⟩ = some vs := ⟨(hb2.cell (p := ⟨w.heap.size, 0, none⟩) HLT.out).trans kQ.1, (hb2.cell (p := ⟨w.heap.size, 1, none⟩) HLT.out).trans kQ.2.1, (hb2.cell (p := ⟨w.heap.size, 2, none⟩) HLT.out).trans kQ.2.2.1, (hb2.cell (p := ⟨w.heap.size, 3, none⟩) HLT.out).trans kQ.2.2.2.1, (hb2.cell (p := ⟨w.heap.size, 4, none⟩) HLT.out).trans kQ.2.2.2.2⟩); (have HBn := hidR (HBc.out.trans (hb2.mono HBc.out.size))); (have HLTn : Hid (w.heap.size < w3.heap.size) := Nat.lt_of_lt_of_le HLT.out hb2.size); clear hb2 HLT HBc kQ; (have HLT := HLTn); (have HBc := HBn); (have kQ := kQn); clear HLTn HBn kQn)
            | (go_at_call 34; refine (K4.out _ HBc.out).mono ?_; rintro e w4 ⟨rfl, hb2⟩; (have kQn : w4.cell? ⟨w.heap.size, 0, none⟩ = some (.int .i64 2) ∧ w4.cell? ⟨w.heap.size, 1, none⟩ = some (.string y1) ∧ w4.cell? ⟨w.heap.size, 2, none⟩ = some (.int .i64 y2) ∧ w4.cell? ⟨w.heap.size, 3, none⟩ = some (.string y3) ∧ w4.cell? ⟨w.heap.size, 4, none⟩ = some vs := ⟨(hb2.cell (p := ⟨w.heap.size, 0, none⟩) HLT.out).trans kQ.1, (hb2.cell (p := ⟨w.heap.size, 1, none⟩) HLT.out).trans kQ.2.1, (hb2.cell (p := ⟨w.heap.size, 2, none⟩) HLT.out).trans kQ.2.2.1, (hb2.cell (p := ⟨w.heap.size, 3, none⟩) HLT.out).trans kQ.2.2.2.1, (hb2.cell (p := ⟨w.heap.size, 4, none⟩) HLT.out).trans kQ.2.2.2.2⟩); (have HBn := hidR (HBc.out.trans (hb2.mono HBc.out.size))); (have HLTn : Hid (w.heap.size < w4.heap.size) := Nat.lt_of_lt_of_le HLT.out hb2.size); clear hb2 HLT HBc kQ; (have HLT := HLTn); (have HBc := HBn); (have kQ := kQn); clear HLTn HBn kQn; simp only [CutCall.shut_cut] at *))
        unfold Hid
        refine wpAnyH_take (i := 11) (v := ?_) rfl (by kernel_rfl) (by kernel_rfl) (by kernel_rfl) (fun _ _ _ h => h) (Or.inl ⟨by rfl, ?_⟩) kQ ?_
        rotate_left
        · (intro w9 hS9; (try dsimp only at hS9); go_simp; (try with_reducible rfl))
        simp only [List.getElem_toArray, List.getElem_cons_succ, List.getElem_cons_zero, Act.put, List.setIfInBounds_toArray, List.set_cons_zero, List.set_cons_succ]
        refine wpAnyH_take (i := 12) (v := ?_) rfl (by kernel_rfl) (by kernel_rfl) (by kernel_rfl) (fun _ _ _ h => h) (Or.inl ⟨by rfl, ?_⟩) kQ ?_
        rotate_left
        · (intro w9 hS9; (try dsimp only at hS9); go_simp; (try with_reducible rfl))
        simp only [List.getElem_toArray, List.getElem_cons_succ, List.getElem_cons_zero, Act.put, List.setIfInBounds_toArray, List.set_cons_zero, List.set_cons_succ]
        refine wpAnyH_done (by kernel_rfl) ?_ _
        refine NoPanic.normal ?_
        go_wp2
        go_ret
        exact ⟨by rw [HN.out]; simp, HBc.out⟩
    · by_cases k3 : y0 = 3
      · subst k3
        clear k1 k2
        have HN : Hid (R = ((fileR ⟨y1, y2, ByteArray.empty⟩ && Del.stepsR li) && ((y2 == y2) && (ByteArray.empty.toList == y3.toList) && true))) := by
          rw [HR.out, eq_empty, fileR_put]
          show _ = _
          unfold opR
          simp
          cases pathR y1 <;> cases y3.toList.isEmpty <;> cases Del.stepsR li <;> simp
        have K1 := hidR (fun W => changeOf_patch y1 y2 y3 vs W HVS.out)
        have K2 : Hid (∀ W, Del.Ls W vs li → Calls Try.prog 63 #[.agg #[.string y1, .int .i64 y2, vs]] W fun e w' => e = .returned (.bool (fileR ⟨y1, y2, ByteArray.empty⟩ && Del.stepsR li)) ∧ Below W.heap.size W w') := fun W hW => patchRight y1 y2 vs li W hW HOK.out.2.2.1 HOK.out.2.2.2
        have K3 : Hid (∀ W, Del.Ls W vs li → Calls Try.prog 62 #[.agg #[.string y1, .int .i64 y2, vs]] W fun e w' => e = .returned (.agg #[.int .i64 3, .string y1, .int .i64 y2, .string ByteArray.empty, vs]) ∧ Below W.heap.size W w') := fun W hW => patchOp y1 y2 vs li W hW
        have K4 : Hid (∀ W, Below w.heap.size w W → Calls Try.prog 34 #[.agg #[.int .i64 3, .string y1, .int .i64 y2, .string ByteArray.empty, vs], .agg #[.int .i64 3, .string y1, .int .i64 y2, .string y3, vs]] W fun e w' => e = .returned (.bool ((y2 == y2) && (ByteArray.empty.toList == y3.toList) && true)) ∧ Below W.heap.size W w') := fun W hW => sameOp_any 3 y1 y2 y2 ByteArray.empty y3 vs vs _ W (fun W2 h2 => KE2.out W2 ((HL.out.below hW).below h2))
        have hm1 := methodPatchR (.agg #[.string y1, .int .i64 y2, vs])
        have hm2 := methodPatchO (.agg #[.string y1, .int .i64 y2, vs])
        clear HR KE KE2 HOK
        generalize (fileR ⟨y1, y2, ByteArray.empty⟩ && Del.stepsR li) = z at *
        generalize ((y2 == y2) && (ByteArray.empty.toList == y3.toList) && true) = z2 at *
        unfold patchV at K1
        obtain ⟨a0, n0, c0, rfl⟩ := HVS.out
        cases z
        · skip
          go_enter Try.func23, Try.ntmps23
          go_wp2_with fail
          refine (K1.out _).mono ?_
          rintro e w1 ⟨rfl, hb1⟩
          have HBc := hidR (bstep HB.out hb1)
          have HLT : Hid (w.heap.size < w1.heap.size) := by have := hb1.size; simp at this; show _ < _; omega
          have kQ : w1.cell? ⟨w.heap.size, 0, none⟩ = some (.int .i64 3) ∧ w1.cell? ⟨w.heap.size, 1, none⟩ = some (.string y1) ∧ w1.cell? ⟨w.heap.size, 2, none⟩ = some (.int .i64 y2) ∧ w1.cell? ⟨w.heap.size, 3, none⟩ = some (.string y3) ∧ w1.cell? ⟨w.heap.size, 4, none⟩ = some (.slice a0 n0 c0) := ⟨(hb1.cell (p := ⟨w.heap.size, 0, none⟩) (by simp)).trans (by simp), (hb1.cell (p := ⟨w.heap.size, 1, none⟩) (by simp)).trans (by simp), (hb1.cell (p := ⟨w.heap.size, 2, none⟩) (by simp)).trans (by simp), (hb1.cell (p := ⟨w.heap.size, 3, none⟩) (by simp)).trans (by simp), (hb1.cell (p := ⟨w.heap.size, 4, none⟩) (by simp)).trans (by simp)⟩
          clear hb1
          go_wp2_with fail
          go_region_held3 (fun W => W.cell? ⟨w.heap.size, 0, none⟩ = some (.int .i64 3) ∧ W.cell? ⟨w.heap.size, 1, none⟩ = some (.string y1) ∧ W.cell? ⟨w.heap.size, 2, none⟩ = some (.int .i64 y2) ∧ W.cell? ⟨w.heap.size, 3, none⟩ = some (.string y3) ∧ W.cell? ⟨w.heap.size, 4, none⟩ = some (.slice a0 n0 c0))
            (first
              | go_keep
              | (exact kQ))
            (first
              | (go_at_call 63; refine (K2.out _ (HL.out.below HBc.out.drew)).mono ?_; rintro e w2 ⟨rfl, hb2⟩; (have kQn : w2.cell? ⟨w.heap.size, 0, none⟩ = some (.int .i64 3) ∧ w2.cell? ⟨w.heap.size, 1, none⟩ = some (.string y1) ∧ w2.cell? ⟨w.heap.size, 2, none⟩ = some (.int .i64 y2) ∧ w2.cell? ⟨w.heap.size, 3, none⟩ = some (.string y3) ∧ w2.cell? ⟨w.heap.size, 4, none⟩ = some (.slice a0 n0 c0) := ⟨(hb2.cell (p := ⟨w.heap.size, 0, none⟩) HLT.out).trans kQ.1, (hb2.cell (p := ⟨w.heap.size, 1, none⟩) HLT.out).trans kQ.2.1, (hb2.cell (p := ⟨w.heap.size, 2, none⟩) HLT.out).trans kQ.2.2.1, (hb2.cell (p := ⟨w.heap.size, 3, none⟩) HLT.out).trans kQ.2.2.2.1, (hb2.cell (p := ⟨w.heap.size, 4, none⟩) HLT.out).trans kQ.2.2.2.2⟩); (have HBn := hidR (HBc.out.drew.trans (hb2.mono HBc.out.drew.size))); (have HLTn : Hid (w.heap.size < w2.heap.size) := Nat.lt_of_lt_of_le HLT.out hb2.size); clear hb2 HLT HBc kQ; (have HLT := HLTn); (have HBc := HBn); (have kQ := kQn); clear HLTn HBn kQn; simp only [CutCall.shut_cut] at *))
          unfold Hid
          refine wpAnyH_take (i := 5) (v := ?_) rfl (by kernel_rfl) (by kernel_rfl) (by kernel_rfl) (fun _ _ _ h => h) (Or.inl ⟨by rfl, ?_⟩) kQ ?_
          rotate_left
          · (intro w9 hS9; (try dsimp only at hS9); go_simp; (try with_reducible rfl))
          simp only [List.getElem_toArray, List.getElem_cons_succ, List.getElem_cons_zero, Act.put, List.setIfInBounds_toArray, List.set_cons_zero, List.set_cons_succ]
          refine wpAnyH_take (i := 6) (v := ?_) rfl (by kernel_rfl) (by kernel_rfl) (by kernel_rfl) (fun _ _ _ h => h) (Or.inl ⟨by rfl, ?_⟩) kQ ?_
          rotate_left
          · (intro w9 hS9; (try dsimp only at hS9); go_simp; (try with_reducible rfl))
          simp only [List.getElem_toArray, List.getElem_cons_succ, List.getElem_cons_zero, Act.put, List.setIfInBounds_toArray, List.set_cons_zero, List.set_cons_succ]
          refine wpAnyH_take (i := 7) (v := _) rfl (by kernel_rfl) (by kernel_rfl) (by kernel_rfl) (fun _ _ _ h => h) (Or.inr ⟨by rfl, rfl⟩) kQ ?_
          simp only [List.getElem_toArray, List.getElem_cons_succ, List.getElem_cons_zero, Act.put, List.setIfInBounds_toArray, List.set_cons_zero, List.set_cons_succ]
          refine wpAnyH_take (i := 8) (v := _) rfl (by kernel_rfl) (by kernel_rfl) (by kernel_rfl) (fun _ _ _ h => h) (Or.inr ⟨by rfl, rfl⟩) kQ ?_
          simp only [List.getElem_toArray, List.getElem_cons_succ, List.getElem_cons_zero, Act.put, List.setIfInBounds_toArray, List.set_cons_zero, List.set_cons_succ]
          refine wpAnyH_take (i := 9) (v := _) rfl (by kernel_rfl) (by kernel_rfl) (by kernel_rfl) (fun _ _ _ h => h) (Or.inr ⟨by rfl, rfl⟩) kQ ?_
          simp only [List.getElem_toArray, List.getElem_cons_succ, List.getElem_cons_zero, Act.put, List.setIfInBounds_toArray, List.set_cons_zero, List.set_cons_succ]
          refine wpAnyH_take (i := 10) (v := _) rfl (by kernel_rfl) (by kernel_rfl) (by kernel_rfl) (fun _ _ _ h => h) (Or.inr ⟨by rfl, rfl⟩) kQ ?_
          simp only [List.getElem_toArray, List.getElem_cons_succ, List.getElem_cons_zero, Act.put, List.setIfInBounds_toArray, List.set_cons_zero, List.set_cons_succ]
          refine wpAnyH_take (i := 11) (v := ?_) rfl (by kernel_rfl) (by kernel_rfl) (by kernel_rfl) (fun _ _ _ h => h) (Or.inl ⟨by rfl, ?_⟩) kQ ?_
          rotate_left
          · (intro w9 hS9; (try dsimp only at hS9); go_simp; (try with_reducible rfl))
          simp only [List.getElem_toArray, List.getElem_cons_succ, List.getElem_cons_zero, Act.put, List.setIfInBounds_toArray, List.set_cons_zero, List.set_cons_succ]
          refine wpAnyH_take (i := 12) (v := ?_) rfl (by kernel_rfl) (by kernel_rfl) (by kernel_rfl) (fun _ _ _ h => h) (Or.inl ⟨by rfl, ?_⟩) kQ ?_
          rotate_left
          · (intro w9 hS9; (try dsimp only at hS9); go_simp; (try with_reducible rfl))
          simp only [List.getElem_toArray, List.getElem_cons_succ, List.getElem_cons_zero, Act.put, List.setIfInBounds_toArray, List.set_cons_zero, List.set_cons_succ]
          refine wpAnyH_done (by kernel_rfl) ?_ _
          refine NoPanic.normal ?_
          go_wp2
          go_ret
          exact ⟨by rw [HN.out]; simp, HBc.out⟩
        · skip
          go_enter Try.func23, Try.ntmps23
          go_wp2_with fail
          refine (K1.out _).mono ?_
          rintro e w1 ⟨rfl, hb1⟩
          have HBc := hidR (bstep HB.out hb1)
          have HLT : Hid (w.heap.size < w1.heap.size) := by have := hb1.size; simp at this; show _ < _; omega
          have kQ : w1.cell? ⟨w.heap.size, 0, none⟩ = some (.int .i64 3) ∧ w1.cell? ⟨w.heap.size, 1, none⟩ = some (.string y1) ∧ w1.cell? ⟨w.heap.size, 2, none⟩ = some (.int .i64 y2) ∧ w1.cell? ⟨w.heap.size, 3, none⟩ = some (.string y3) ∧ w1.cell? ⟨w.heap.size, 4, none⟩ = some (.slice a0 n0 c0) := ⟨(hb1.cell (p := ⟨w.heap.size, 0, none⟩) (by simp)).trans (by simp), (hb1.cell (p := ⟨w.heap.size, 1, none⟩) (by simp)).trans (by simp), (hb1.cell (p := ⟨w.heap.size, 2, none⟩) (by simp)).trans (by simp), (hb1.cell (p := ⟨w.heap.size, 3, none⟩) (by simp)).trans (by simp), (hb1.cell (p := ⟨w.heap.size, 4, none⟩) (by simp)).trans (by simp)⟩
          clear hb1
          go_wp2_with fail
          go_region_held3 (fun W => W.cell? ⟨w.heap.size, 0, none⟩ = some (.int .i64 3) ∧ W.cell? ⟨w.heap.size, 1, none⟩ = some (.string y1) ∧ W.cell? ⟨w.heap.size, 2, none⟩ = some (.int .i64 y2) ∧ W.cell? ⟨w.heap.size, 3, none⟩ = some (.string y3) ∧ W.cell? ⟨w.heap.size, 4, none⟩ = some (.slice a0 n0 c0))
            (first
              | go_keep
              | (exact kQ))
            (first
              | (go_at_call 63; refine (K2.out _ (HL.out.below HBc.out.drew)).mono ?_; rintro e w2 ⟨rfl, hb2⟩; (have kQn : w2.cell? ⟨w.heap.size, 0, none⟩ = some (.int .i64 3) ∧ w2.cell? ⟨w.heap.size, 1, none⟩ = some (.string y1) ∧ w2.cell? ⟨w.heap.size, 2, none⟩ = some (.int .i64 y2) ∧ w2.cell? ⟨w.heap.size, 3, none⟩ = some (.string y3) ∧ w2.cell? ⟨w.heap.size, 4, none⟩ = some (.slice a0 n0 c0) := ⟨(hb2.cell (p := ⟨w.heap.size, 0, none⟩) HLT.out).trans kQ.1, (hb2.cell (p := ⟨w.heap.size, 1, none⟩) HLT.out).trans kQ.2.1, (hb2.cell (p := ⟨w.heap.size, 2, none⟩) HLT.out).trans kQ.2.2.1, (hb2.cell (p := ⟨w.heap.size, 3, none⟩) HLT.out).trans kQ.2.2.2.1, (hb2.cell (p := ⟨w.heap.size, 4, none⟩) HLT.out).trans kQ.2.2.2.2⟩); (have HBn := hidR (HBc.out.drew.trans (hb2.mono HBc.out.drew.size))); (have HLTn : Hid (w.heap.size < w2.heap.size) := Nat.lt_of_lt_of_le HLT.out hb2.size); clear hb2 HLT HBc kQ; (have HLT := HLTn); (have HBc := HBn); (have kQ := kQn); clear HLTn HBn kQn)
              | (go_at_call 62; refine (K3.out _ (HL.out.below HBc.out)).mono ?_; rintro e w3 ⟨rfl, hb2⟩; (have kQn : w3.cell? ⟨w.heap.size, 0, none⟩ = some (.int .i64 3) ∧ w3.cell? ⟨w.heap.size, 1, none⟩ = some (.string y1) ∧ w3.cell? ⟨w.heap.size, 2, none⟩ = some (.int .i64 y2) ∧ w3.cell? ⟨w.heap.size, 3, none⟩ = some (.string y3) ∧ w3.cell? ⟨w.heap.size, 4, none⟩ = some (.slice a0 n0 c0) := ⟨(hb2.cell (p := ⟨w.heap.size, 0, none⟩) HLT.out).trans kQ.1, (hb2.cell (p := ⟨w.heap.size, 1, none⟩) HLT.out).trans kQ.2.1, (hb2.cell (p := ⟨w.heap.size, 2, none⟩) HLT.out).trans kQ.2.2.1, (hb2.cell (p := ⟨w.heap.size, 3, none⟩) HLT.out).trans kQ.2.2.2.1, (hb2.cell (p := ⟨w.heap.size, 4, none⟩) HLT.out).trans kQ.2.2.2.2⟩); (have HBn := hidR (HBc.out.trans (hb2.mono HBc.out.size))); (have HLTn : Hid (w.heap.size < w3.heap.size) := Nat.lt_of_lt_of_le HLT.out hb2.size); clear hb2 HLT HBc kQ; (have HLT := HLTn); (have HBc := HBn); (have kQ := kQn); clear HLTn HBn kQn)
              | (go_at_call 34; refine (K4.out _ HBc.out).mono ?_; rintro e w4 ⟨rfl, hb2⟩; (have kQn : w4.cell? ⟨w.heap.size, 0, none⟩ = some (.int .i64 3) ∧ w4.cell? ⟨w.heap.size, 1, none⟩ = some (.string y1) ∧ w4.cell? ⟨w.heap.size, 2, none⟩ = some (.int .i64 y2) ∧ w4.cell? ⟨w.heap.size, 3, none⟩ = some (.string y3) ∧ w4.cell? ⟨w.heap.size, 4, none⟩ = some (.slice a0 n0 c0) := ⟨(hb2.cell (p := ⟨w.heap.size, 0, none⟩) HLT.out).trans kQ.1, (hb2.cell (p := ⟨w.heap.size, 1, none⟩) HLT.out).trans kQ.2.1, (hb2.cell (p := ⟨w.heap.size, 2, none⟩) HLT.out).trans kQ.2.2.1, (hb2.cell (p := ⟨w.heap.size, 3, none⟩) HLT.out).trans kQ.2.2.2.1, (hb2.cell (p := ⟨w.heap.size, 4, none⟩) HLT.out).trans kQ.2.2.2.2⟩); (have HBn := hidR (HBc.out.trans (hb2.mono HBc.out.size))); (have HLTn : Hid (w.heap.size < w4.heap.size) := Nat.lt_of_lt_of_le HLT.out hb2.size); clear hb2 HLT HBc kQ; (have HLT := HLTn); (have HBc := HBn); (have kQ := kQn); clear HLTn HBn kQn; simp only [CutCall.shut_cut] at *))
          unfold Hid
          refine wpAnyH_take (i := 11) (v := ?_) rfl (by kernel_rfl) (by kernel_rfl) (by kernel_rfl) (fun _ _ _ h => h) (Or.inl ⟨by rfl, ?_⟩) kQ ?_
          rotate_left
          · (intro w9 hS9; (try dsimp only at hS9); go_simp; (try with_reducible rfl))
          simp only [List.getElem_toArray, List.getElem_cons_succ, List.getElem_cons_zero, Act.put, List.setIfInBounds_toArray, List.set_cons_zero, List.set_cons_succ]
          refine wpAnyH_take (i := 12) (v := ?_) rfl (by kernel_rfl) (by kernel_rfl) (by kernel_rfl) (fun _ _ _ h => h) (Or.inl ⟨by rfl, ?_⟩) kQ ?_
          rotate_left
          · (intro w9 hS9; (try dsimp only at hS9); go_simp; (try with_reducible rfl))
          simp only [List.getElem_toArray, List.getElem_cons_succ, List.getElem_cons_zero, Act.put, List.setIfInBounds_toArray, List.set_cons_zero, List.set_cons_succ]
          refine wpAnyH_done (by kernel_rfl) ?_ _
          refine NoPanic.normal ?_
          go_wp2
          go_ret
          exact ⟨by rw [HN.out]; simp, HBc.out⟩
      · have b1 : (y0 == 1) = false := by simpa using k1
        have b2 : (y0 == 2) = false := by simpa using k2
        have b3 : (y0 == 3) = false := by simpa using k3
        have HN : Hid (R = false) := by
          rw [HR.out]
          show _ = _
          unfold opR
          rw [if_neg k1, if_neg k2, if_neg k3, Bool.and_false]
        have K1 := hidR (fun W => changeOf_none y0 y1 y2 y3 vs W b1 b2 b3)
        clear HR KE KE2 HOK b1 b2 b3 k1 k2 k3
        go_enter Try.func23, Try.ntmps23
        go_wp2_with fail
        refine (K1.out _).mono ?_
        rintro e w1 ⟨rfl, hb1⟩
        have HBc := hidR (bstep HB.out hb1)
        clear hb1
        go_wp2_with fail
        go_region
        go_wp2
        go_ret
        exact ⟨by rw [HN.out]; rfl, Sha.bel_drewN HBc.out 1⟩
set_option maxHeartbeats 1000000 in
theorem implOR_any (v : Value) (l : List Ox) (w : World) (h : Ls w v l) (hn : l.length ≤ maxLen) (hs : ∀ y ∈ l, okSz y) :
    Calls Try.prog 13 #[v] w fun e w' => e = .returned (.bool (opsR l)) ∧ Below w.heap.size w w' := by
  obtain ⟨a, cap, rfl, hc⟩ := h
  have HC := hidR hc
  have HSS := hidR hs
  unfold maxLen at hn
  clear hc hs
  by_cases hb3 : l.length ≤ 12
  · have p3 : (l.length : Int) ≤ 12 := by omega
    go_enter Try.func13, Try.ntmps13
    go_wp2
    go_loopw [10] (fun i wr => ∃ k : Nat, k ≤ l.length ∧ i = .int .i64 k ∧ Below w.heap.size w wr ∧ Hid (∀ j (hj : j < l.length), j < k → opR l[j] = true)) (fun i _ => 14 - (intOf i).toNat)
    case atStart => exact ⟨0, by omega, rfl, Below.refl _ _, fun j _ h => by omega⟩
    case round =>
      obtain ⟨k, hk, rfl, hbel, HR⟩ := hrel
      by_cases hlt : k < l.length
      · have p1 : (k : Int) < (l.length : Int) := by omega
        obtain ⟨b, o, vs, rfl, d0, d1, d2, d3, d4, hls⟩ := HC.out k hlt
        obtain ⟨av, cv, hvs, _⟩ := hls.at
        have hls2 := hls
        generalize l[k].s.length = nv at hvs
        subst hvs
        have c0 : wr.cell? ⟨b, o + k * 5, none⟩ = _ := (hbel.cell (World.block_lt_of_cell? w _ d0)).trans d0
        have c1 : wr.cell? ⟨b, o + k * 5 + 1, none⟩ = _ := (hbel.cell (World.block_lt_of_cell? w _ d1)).trans d1
        have c2 : wr.cell? ⟨b, o + k * 5 + 2, none⟩ = _ := (hbel.cell (World.block_lt_of_cell? w _ d2)).trans d2
        have c3 : wr.cell? ⟨b, o + k * 5 + 3, none⟩ = _ := (hbel.cell (World.block_lt_of_cell? w _ d3)).trans d3
        have c4 : wr.cell? ⟨b, o + k * 5 + 4, none⟩ = _ := (hbel.cell (World.block_lt_of_cell? w _ d4)).trans d4
        have KS : Hid (∀ W, Below w.heap.size w W → Calls Try.prog 23 #[.agg #[.int .i64 l[k].k, .string l[k].p, .int .i64 l[k].m, .string l[k].d, .slice av nv cv]] W fun e w' => e = .returned (.bool (opR l[k])) ∧ Below W.heap.size W w') := fun W hW => implOp_any _ l[k] W ⟨_, rfl, hls2.below hW⟩ (HSS.out _ (List.getElem_mem hlt))
        have HBAD : Hid (opR l[k] = false → opsR l = false) := opsR_bad hlt
        have HOK : Hid (opR l[k] = true → ∀ j (hj : j < l.length), j < k + 1 → opR l[j] = true) := fun h j hj hjk => by
          by_cases e : j = k
          · subst e; exact h
          · exact HR.out j hj (by omega)
        generalize opR l[k] = z at *
        generalize l[k].k = x0 at *
        generalize l[k].p = x1 at *
        generalize l[k].m = x2 at *
        generalize l[k].d = x3 at *
        have HB := hidR (balloc hbel (.cells #[.int .i64 x0, .string x1, .int .i64 x2, .string x3, .slice av nv cv] 36))
        clear d0 d1 d2 d3 d4 hbel HR hls hls2
        cases z
        · have HN := hidR (HBAD.out rfl)
          clear HBAD HOK
          go_wp2_with (go_at_call 23; refine (KS.out _ HB.out).mono ?_; rintro e w1 ⟨rfl, hb1⟩)
          go_ret
          exact ⟨by rw [HN.out]; rfl, HB.out.trans (hb1.mono HB.out.size)⟩
        · have HN := hidR (HOK.out rfl)
          clear HBAD HOK
          go_wp2_with (go_at_call 23; refine (KS.out _ HB.out).mono ?_; rintro e w1 ⟨rfl, hb1⟩)
          go_roundw
          case rel => exact ⟨k + 1, by omega, by go_num, HB.out.trans (hb1.mono HB.out.size), HN⟩
          case measure => simp [intOf]; omega
      · have e : k = l.length := by omega
        subst e
        have HB := hidR hbel
        have HN := hidR (opsR_ok hb3 (fun j hj => HR.out j hj hj))
        clear hbel HR
        go_wp2
        go_ret
        exact ⟨by rw [HN.out]; rfl, HB.out⟩
  · have p3 : ¬ (l.length : Int) ≤ 12 := by omega
    have HN := hidR (opsR_big hb3)
    go_enter Try.func13, Try.ntmps13
    go_wp2
    go_ret
    exact ⟨by rw [HN.out]; rfl, Below.refl _ _⟩
end Go.Proofs.Ytfpgobkedfhakab.Ops
