/- Laws that the proof rests on, put together: What the model's Spread answers. What the model's Spread answers, whole. What the model's look at a frame answers. -/
import Derived.Test.YtkanhjafchiikaaDoorSpecMixS
import Derived.Test.YtkanhjafchiikaaDoorTextsD
/- What the model's Spread answers. -/
namespace Go.Proofs.YtkanhjafchiikaaDoor.Gf
open Go.RowKit Go.Proofs.YtkanhjafchiikaaDoor.Mem Go.Proofs.YtkanhjafchiikaaDoor.Harn

theorem ownS_of_app {W : World} {base g cap n : Nat} {ls : List ByteArray} (h : W.ownsRow base 9 1 (.slice (some ⟨g, 0, none⟩) n cap) n (ls.map Value.string)) (hn : n = ls.length) : OwnS W base (.slice (some ⟨g, 0, none⟩) n cap) ls := by
  subst hn
  unfold OwnS OwnV
  simpa using h
/-- 'append([]string{}, l...)' of at least one text -/
theorem copy_strs (ty : TypeId) (g0 : Nat) (v : Value) (ls : List ByteArray) (W : World) (h : Strs W v ls) (h0 : 0 < ls.length) (hn : ls.length ≤ 1100000) :
    ∃ g cap W1, (Builtin.append_ #[55, 55] ty #[.slice (some ⟨g0, 0, none⟩) 0 0, v]).run Tryd.prog W = .ok (.slice (some ⟨g, 0, none⟩) ls.length cap) W1 ∧ OwnS W1 W.heap.size (.slice (some ⟨g, 0, none⟩) ls.length cap) ls ∧ Below W.heap.size W W1 := by
  obtain ⟨a, c, rfl, hc⟩ := h
  obtain ⟨b, o, rfl, _⟩ := hc 0 (by omega)
  obtain ⟨g, cap, W1, hr, h1, h2, h3, h4, h5, h6⟩ := app_new (P := Tryd.prog) 55 ty 9 (.string ByteArray.empty) 1 16 underStrs infoStr rfl (by omega) ⟨g0, 0, none⟩ ⟨b, o, none⟩ ls.length c (ls.map Value.string) W (by simp) (fun j u hu => by
    rw [List.getElem?_map] at hu
    cases e : ls[j]? with
    | none => rw [e] at hu; cases hu
    | some t =>
      rw [e] at hu
      obtain ⟨hj, ht⟩ := List.getElem?_eq_some_iff.1 e
      obtain ⟨b', o', hbo, hcell⟩ := hc j hj
      injection hbo with hbo
      injection hbo with e1 e2 _
      subst e1 e2
      have hadd : (⟨b, o, none⟩ : Addr).add j = ⟨b, o + j, none⟩ := by unfold Addr.add; split <;> simp_all
      rw [hadd, hcell, ht]
      simpa using hu) (by omega) (by unfold maxLen; omega) (by omega)
  exact ⟨g, cap, W1, hr, ownS_of_app h6 rfl, h3⟩

/-- the further pieces of texts, as texts -/
def restS (ls : List ByteArray) (need L k : Nat) : List ByteArray := ls ++ (rests (ls.map nb) need L k).map toB
theorem restS_zero (ls : List ByteArray) (need L : Nat) : restS ls need L 0 = ls := by simp [restS, rests]
theorem restS_succ (ls : List ByteArray) (need L k : Nat) : restS ls need L (k + 1) = restS ls need L k ++ [toB (rest1 (ls.map nb) need L k)] := by simp [restS, rests_succ]
theorem restS_len (ls : List ByteArray) (need L k : Nat) : (restS ls need L k).length = ls.length + k := by simp [restS, rests]

end Go.Proofs.YtkanhjafchiikaaDoor.Gf

/- What the model's Spread answers, whole. -/
namespace Go.Proofs.YtkanhjafchiikaaDoor.Gf
open Go.RowKit Go.Proofs.YtkanhjafchiikaaDoor.Mem Go.Proofs.YtkanhjafchiikaaDoor.Harn

theorem mulW {a b : Nat} (h : a * b ≤ 1000000) : IntKind.i64.wrap ((a : Int) * (b : Int)) = ((a * b : Nat) : Int) := by
  rw [← Int.natCast_mul]; exact IntWalk.i64_in _ ⟨by omega, by omega⟩
theorem plen_int {need size : Nat} (h : 0 < need) : ((size : Int) + need - 1) / need = ((plen need size : Nat) : Int) := by
  unfold plen
  have e : ((size : Int) + need - 1) = ((size + need - 1 : Nat) : Int) := by omega
  rw [e]; rfl

theorem specLong_any (need size : Nat) (w : World) (h : 0 < need) (hn : need ≤ 100) (hs : size ≤ 1000) :
    Calls Tryd.prog 33 #[.int .i64 (need : Nat), .int .i64 (size : Nat)] w fun e w' => e = .returned (.int .i64 (plen need size : Nat)) ∧ w = w' := by
  have HP : Hid (((size : Int) + need - 1) / need = ((plen need size : Nat) : Int)) := plen_int h
  have h0 : ¬ (need : Int) = 0 := by omega
  have h0' : ((need : Int) == 0) = false := by rw [beq_eq_false_iff_ne]; omega
  go_enter Tryd.func33, Tryd.ntmps33
  go_wp2
  go_ret
  exact ⟨ret_int HP.out, rfl⟩

theorem specFine_any (need more size : Int) (w : World) :
    Calls Tryd.prog 32 #[.int .i64 need, .int .i64 more, .int .i64 size] w fun e w' => e = .returned (.bool (fineB need more size)) ∧ w = w' := by
  have HE : Hid (fineB need more size = (isB need 1 6 && isB more 0 4 && isB size 1 100)) := rfl
  by_cases h1 : isB need 1 6 = true
  · by_cases h2 : isB more 0 4 = true
    · rw [h1, h2] at HE
      simp only [Bool.and_self, Bool.true_and] at HE
      generalize fineB need more size = z at *
      go_enter Tryd.func32, Tryd.ntmps32
      go_wp2_with (go_at_call 31; refine (l05Is_any _ _ _ _).mono ?_; rintro e w' ⟨rfl, rfl⟩)
      go_ret
      exact ⟨by rw [HE.out]; rfl, rfl⟩
    · have h2' : isB more 0 4 = false := by simpa using h2
      rw [h1, h2'] at HE
      simp only [Bool.and_false, Bool.false_and] at HE
      generalize fineB need more size = z at *
      clear h2
      go_enter Tryd.func32, Tryd.ntmps32
      go_wp2_with (go_at_call 31; refine (l05Is_any _ _ _ _).mono ?_; rintro e w' ⟨rfl, rfl⟩)
      go_ret
      exact ⟨by rw [HE.out]; rfl, rfl⟩
  · have h1' : isB need 1 6 = false := by simpa using h1
    rw [h1'] at HE
    simp only [Bool.false_and] at HE
    generalize fineB need more size = z at *
    clear h1
    go_enter Tryd.func32, Tryd.ntmps32
    go_wp2_with (go_at_call 31; refine (l05Is_any _ _ _ _).mono ?_; rintro e w' ⟨rfl, rfl⟩)
    go_ret
    exact ⟨by rw [HE.out]; rfl, rfl⟩

theorem slice_text (tx : ByteArray) (a b : Nat) (ha : a ≤ b) (hb : b ≤ tx.size) (i j : Int) (hi : i = a) (hj : j = b) (W : World) : (Instr.slice 9 (.string tx) (some (.int .i64 i)) (some (.int .i64 j)) none).run Tryd.prog W = .ok (.string (tx.extract a b)) W := by
  subst hi hj
  simp [Instr.slice, Instr.sliceBounds, run_underlying Join.underS, go_sem, ha, hb]

theorem toB_app (a b : List Nat) : toB a ++ toB b = toB (a ++ b) := by
  apply ByteArray.ext
  simp [toB]
theorem toB_extract (l : List Nat) (a b : Nat) : (toB l).extract a b = toB ((l.drop a).take (b - a)) := by
  apply ByteArray.ext
  apply Array.ext'
  simp [toB, List.extract_eq_take_drop]
theorem pad_text (t : ByteArray) (need : Nat) : t ++ toB (List.replicate (need * plen need t.size - t.size) 0) = toB (pad (nb t) need) := by
  conv => lhs; lhs; rw [← toB_nb t]
  rw [toB_app]
  unfold pad
  rw [nb_len]
theorem zeros_cells (n : Nat) : List.replicate n (Value.int .u8 0) = Lib.byteCells ((List.replicate n 0).map UInt8.ofNat) := by
  apply List.ext_getElem
  · simp [Lib.byteCells]
  · intro j h1 h2; simp [Lib.byteCells]

end Go.Proofs.YtkanhjafchiikaaDoor.Gf

/- What the model's look at a frame answers. -/
namespace Go.Proofs.YtkanhjafchiikaaDoor.Frm
open Go.RowKit Go.Proofs.YtkanhjafchiikaaDoor.Mem Go.Proofs.YtkanhjafchiikaaDoor.Gf Go.Proofs.YtkanhjafchiikaaDoor.Harn

theorem isB_call {n l h : Int} {b : Bool} (e : isB n l h = b) (W : World) : Calls Tryd.prog 31 #[.int .i64 n, .int .i64 l, .int .i64 h] W fun e w' => e = .returned (.bool b) ∧ w' = W := by
  subst e; exact (l05Is_any n l h W).mono fun _ _ h => ⟨h.1, h.2.symm⟩
theorem fine_call {n m s : Int} {b : Bool} (e : fineB n m s = b) (W : World) : Calls Tryd.prog 32 #[.int .i64 n, .int .i64 m, .int .i64 s] W fun e w' => e = .returned (.bool b) ∧ w' = W := by
  subst e; exact (specFine_any n m s W).mono fun _ _ h => ⟨h.1, h.2.symm⟩
theorem long_call {n s : Nat} (h : 0 < n) (hn : n ≤ 100) (hs : s ≤ 1000) (W : World) : Calls Tryd.prog 33 #[.int .i64 (n : Nat), .int .i64 (s : Nat)] W fun e w' => e = .returned (.int .i64 (plen n s : Nat)) ∧ w' = W :=
  (specLong_any n s W h hn hs).mono fun _ _ h => ⟨h.1, h.2.symm⟩
theorem ret_bool {a b : Bool} (h : a = b) : Ending.returned (.bool a) = .returned (.bool b) := by rw [h]

set_option maxRecDepth 100000 in
set_option maxHeartbeats 1000000 in
theorem specFR_any (f : Fr) (w : World) : Calls Tryd.prog 19 #[f.val] w fun e w' => e = .returned (.bool f.right) ∧ Below w.heap.size w w' := by
  have hc := f.cases
  generalize f.right = z at *
  obtain ⟨o, g, gs, n, m, s, x, t⟩ := f
  unfold Fr.val
  dsimp only at *
  rcases hc with ⟨h1, rfl⟩ | ⟨h1, h2, rfl⟩ | ⟨h1, h2, h3, rfl⟩ | ⟨h1, h2, h3, h4, rfl⟩ | ⟨h1, h2, h3, h4, h5, rfl⟩ | ⟨h1, h2, h3, h4, h5, rfl⟩
  · have H1 : Hid _ := fun W => isB_call h1 W
    clear h1
    go_enter Tryd.func19, Tryd.ntmps19
    go_wp2_with fail
    go_quiet ((go_at_call 31; exact Calls.quiet_of_same (H1.out _)))
    go_wp2
    go_ret
    exact ⟨rfl, Sha.bel_drewN ((Below.refl _ _).alloc (Nat.le_refl _) _) _⟩
  · have H1 : Hid _ := fun W => isB_call h1 W
    have H2 : Hid _ := fun W => isB_call h2 W
    clear h1 h2
    go_enter Tryd.func19, Tryd.ntmps19
    go_wp2_with fail
    go_quiet ((first | (go_at_call_of 31 (Value.int .i64 o); exact Calls.quiet_of_same (H1.out _)) | (go_at_call_of 31 (Value.int .i64 gs); exact Calls.quiet_of_same (H2.out _))))
    go_wp2
    go_ret
    exact ⟨rfl, Sha.bel_drewN ((Below.refl _ _).alloc (Nat.le_refl _) _) _⟩
  all_goals
    have b2 := isB_iff.1 h2
    obtain ⟨b20, b21⟩ := b2
    have H1 : Hid _ := fun W => isB_call h1 W
    have H2 : Hid _ := fun W => isB_call h2 W
    have H3 : Hid _ := fun W => isB_call h3 W
    clear h1 h2 h3
  · go_enter Tryd.func19, Tryd.ntmps19
    go_wp2_with fail
    go_quiet ((first | (go_at_call_of 31 (Value.int .i64 o); exact Calls.quiet_of_same (H1.out _)) | (go_at_call_of 31 (Value.int .i64 gs); exact Calls.quiet_of_same (H2.out _)) | (go_at_call_of 31 (Value.int .i64 g); exact Calls.quiet_of_same (H3.out _))))
    go_wp2
    go_ret
    exact ⟨rfl, Sha.bel_drewN ((Below.refl _ _).alloc (Nat.le_refl _) _) _⟩
  · have H4 : Hid _ := fun W => fine_call h4 W
    clear h4
    go_enter Tryd.func19, Tryd.ntmps19
    go_wp2_with fail
    go_quiet ((first | (go_at_call_of 31 (Value.int .i64 o); exact Calls.quiet_of_same (H1.out _)) | (go_at_call_of 31 (Value.int .i64 gs); exact Calls.quiet_of_same (H2.out _)) | (go_at_call_of 31 (Value.int .i64 g); exact Calls.quiet_of_same (H3.out _)) | (go_at_call 32; exact Calls.quiet_of_same (H4.out _))))
    go_wp2
    go_ret
    exact ⟨rfl, Sha.bel_drewN ((Below.refl _ _).alloc (Nat.le_refl _) _) _⟩
  all_goals
    have H4 : Hid _ := fun W => fine_call h4 W
    obtain ⟨n', m', s', rfl, rfl, rfl, q1, q2, q3, q4, q5⟩ := fine_parts h4
    have H5 : Hid _ := fun W => isB_call h5 W
    have H6 : Hid _ := fun W => long_call (n := n') (s := s') (by omega) (by omega) (by omega) W
    clear h4
  · clear h5
    go_enter Tryd.func19, Tryd.ntmps19
    go_wp2_with fail
    go_quiet ((first | (go_at_call_of 31 (Value.int .i64 o); exact Calls.quiet_of_same (H1.out _)) | (go_at_call_of 31 (Value.int .i64 gs); exact Calls.quiet_of_same (H2.out _)) | (go_at_call_of 31 (Value.int .i64 g); exact Calls.quiet_of_same (H3.out _)) | (go_at_call 32; exact Calls.quiet_of_same (H4.out _)) | (go_at_call_of 31 (Value.int .i64 x); exact Calls.quiet_of_same (H5.out _))))
    go_wp2
    go_ret
    exact ⟨rfl, Sha.bel_drewN ((Below.refl _ _).alloc (Nat.le_refl _) _) _⟩
  · clear h5
    simp only [Int.toNat_natCast]
    have hq : (((t.size : Int)) == ((plen n' s' : Nat) : Int)) = decide (t.size = plen n' s') := by
      by_cases e : t.size = plen n' s'
      · rw [decide_eq_true e, beq_iff_eq]; omega
      · rw [decide_eq_false e, beq_eq_false_iff_ne]; omega
    generalize hd : decide (t.size = plen n' s') = bz at *
    clear hd
    generalize plen n' s' = L at *
    go_enter Tryd.func19, Tryd.ntmps19
    go_wp2_with fail
    go_quiet ((first | (go_at_call_of 31 (Value.int .i64 o); exact Calls.quiet_of_same (H1.out _)) | (go_at_call_of 31 (Value.int .i64 gs); exact Calls.quiet_of_same (H2.out _)) | (go_at_call_of 31 (Value.int .i64 g); exact Calls.quiet_of_same (H3.out _)) | (go_at_call 32; exact Calls.quiet_of_same (H4.out _)) | (go_at_call_of 31 (Value.int .i64 x); exact Calls.quiet_of_same (H5.out _)) | (go_at_call 33; exact Calls.quiet_of_same (H6.out _))))
    go_wp2
    go_ret
    exact ⟨rfl, Sha.bel_drewN ((Below.refl _ _).alloc (Nat.le_refl _) _) _⟩
end Go.Proofs.YtkanhjafchiikaaDoor.Frm
