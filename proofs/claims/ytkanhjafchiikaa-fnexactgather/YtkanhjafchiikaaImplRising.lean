/- What the program's rising shards are. -/
import Derived.Test.YtkanhjafchiikaaSortStable
import Derived.Test.YtkanhjafchiikaaTextsB
import Derived.Test.YtkanhjafchiikaaTextsC
import Derived.Laws.Cover3
namespace Go.Proofs.Ytkanhjafchiikaa.Srt
open Go.RowKit Go.Proofs.Ytkanhjafchiikaa.Mem Go.Proofs.Ytkanhjafchiikaa.Harn Go.Proofs.Ytkanhjafchiikaa.Disk

theorem underShards : Try.prog.underlying 27 = some (.slice 36) := by kernel_rfl
theorem infoShard : (Try.prog.info? 36).map (fun i => (i.zero, i.size, i.bytes)) = some (some (.agg #[.int .i64 0, .string ByteArray.empty]), 2, 24) := by kernel_rfl

theorem eql_nil (a : Option Addr) (n c : Nat) (W : World) : (binOp .eql 27 (.slice a n c) (.slice none 0 0)).run Try.prog W = .ok (.bool a.isNone) W := by
  simp only [binOp]
  simp [run_equal_slice_nil W _ _ a n c underShards]

/-- 'append([]Shard{}, s...)' of at least one shard -/
theorem copy_shards (ty : TypeId) (g0 : Nat) (v : Value) (lp : List E) (W : World) (h : Pends W v lp) (h0 : 0 < lp.length) (hn : lp.length ≤ 1100000) :
    ∃ g cap W1, (Builtin.append_ #[27, 27] ty #[.slice (some ⟨g0, 0, none⟩) 0 0, v]).run Try.prog W = .ok (.slice (some ⟨g, 0, none⟩) lp.length cap) W1 ∧ PendsAt W1 g 0 lp ∧ W.heap.size ≤ g ∧ lp.length ≤ cap ∧ Below W.heap.size W W1 := by
  obtain ⟨a, c, rfl, hc⟩ := h
  obtain ⟨b, o, rfl, _⟩ := hc 0 h0
  obtain ⟨g, cap, W1, hr, h1, h2, h3, h4, h5, hown⟩ := app_new (P := Try.prog) 27 ty 36 (.agg #[.int .i64 0, .string ByteArray.empty]) 2 24 underShards infoShard rfl (by omega) ⟨g0, 0, none⟩ ⟨b, o, none⟩ lp.length c (pcells lp) W (length_pcells lp) (fun j u hu => by
    have hl := length_pcells lp
    have hj : j < (pcells lp).length := by
      rcases Nat.lt_or_ge j (pcells lp).length with h | h
      · exact h
      · rw [List.getElem?_eq_none h] at hu; cases hu
    obtain ⟨q1, q2⟩ := pcells_at lp (j / 2) (by omega)
    obtain ⟨b', o', hbo, hc1, hc2⟩ := hc (j / 2) (by omega)
    injection hbo with hbo
    injection hbo with e1 e2 _
    subst e1 e2
    have hadd : (⟨b, o, none⟩ : Addr).add j = ⟨b, o + j, none⟩ := by unfold Addr.add; split <;> simp_all
    rw [hadd]
    by_cases hp : j % 2 = 0
    · rw [show j / 2 * 2 = j by omega] at q1 hc1
      rw [hc1, ← q1, hu]
    · rw [show j / 2 * 2 + 1 = j by omega] at q2
      rw [show o + j / 2 * 2 + 1 = o + j by omega] at hc2
      rw [hc2, ← q2, hu]) (by omega) (by unfold maxLen; omega) (by omega)
  have hcap : lp.length ≤ cap := by
    rcases hown.2 with ⟨h0', _⟩ | ⟨g', cap', cur, hv, _, _, hle, _⟩
    · cases h0'
    · injection hv with _ _ hv3; omega
  exact ⟨g, cap, W1, hr, fun j hj => by
    obtain ⟨q1, q2⟩ := pcells_at lp j hj
    rw [Nat.zero_add]
    exact ⟨h4 _ _ q1, h4 _ _ q2, h5 _, h5 _⟩, h1, hcap, h3⟩

theorem insertion_none (a : Option Addr) (cap : Nat) (f : Value) (w : World) :
    Calls Try.prog 84 #[.slice a 0 cap, .int .i64 0, .int .i64 0, f] w fun e w' => e = .returned (.tuple #[]) ∧ w = w' := by
  go_enter Try.func84, Try.ntmps84
  go_wp2
  go_loop [8] (fun i => i = .int .i64 1) (fun _ => 0)
  case atStart => rfl
  case round =>
    subst hrel
    go_wp2
    exact bodyPost_end (v := .tuple #[]) (by simp [results, Try.results84]) rfl ⟨rfl, rfl⟩
theorem stable_none (a : Option Addr) (cap : Nat) (f : Value) (w : World) :
    Calls Try.prog 76 #[.slice a 0 cap, .int .i64 0, f] w fun e w' => e = .returned (.tuple #[]) ∧ w = w' := by
  go_enter Try.func76, Try.ntmps76
  go_wp2
  go_loop [7, 8] (fun a b => a = .int .i64 0 ∧ b = .int .i64 20) (fun _ _ => 0)
  case atStart => exact ⟨rfl, rfl⟩
  case round =>
    obtain ⟨rfl, rfl⟩ := hrel
    go_wp2_with (go_at_call 84; refine (insertion_none _ _ _ _).mono ?_; rintro e w' ⟨rfl, rfl⟩)
    go_loop [6] (fun b => b = .int .i64 20) (fun _ => 0)
    case atStart => rfl
    case round =>
      subst hrel
      go_wp2
      exact bodyPost_end (v := .tuple #[]) (by simp [results, Try.results76]) rfl ⟨rfl, rfl⟩
theorem sortStable_none (a : Option Addr) (cap : Nat) (f : Value) (w : World) :
    Calls Try.prog 62 #[.slice a 0 cap, f] w fun e w' => e = .returned (.tuple #[]) ∧ w = w' := by
  go_enter Try.func62, Try.ntmps62
  go_wp2_with (go_at_call 76; refine (stable_none _ _ _ _).mono ?_; rintro e w' ⟨rfl, rfl⟩)
  exact bodyPost_end (v := .tuple #[]) (by simp [results, Try.results62]) rfl ⟨rfl, rfl⟩

set_option maxRecDepth 100000 in
theorem clone_some (v : Value) (l : List E) (w : World) (h : Pends w v l) (h0 : 0 < l.length) (hn : l.length ≤ 1000000) :
    Calls Try.prog 61 #[v] w fun e w' => ∃ g cap, e = .returned (.slice (some ⟨g, 0, none⟩) l.length cap) ∧ PendsAt w' g 0 l ∧ w.heap.size ≤ g ∧ l.length ≤ cap ∧ Below w.heap.size w w' := by
  have hb0 : Below w.heap.size w (w.alloc (.cells #[] 36)) := (Below.refl _ _).alloc (Nat.le_refl _) _
  obtain ⟨g, cap, W1, hr, hp, hg, hc, hb⟩ := copy_shards 27 w.heap.size v l (w.alloc (.cells #[] 36)) (Pends.below h hb0) h0 (by omega)
  have HB : Hid (Below w.heap.size w W1) := hb0.trans (hb.mono (by simp))
  have HP : Hid (PendsAt W1 g 0 l) := hp
  have hg' : w.heap.size ≤ g := by simp at hg; omega
  obtain ⟨a, c, rfl, hcc⟩ := h
  obtain ⟨b, o, rfl, _⟩ := hcc 0 h0
  have heq := eql_nil (some ⟨b, o, none⟩) l.length c
  simp only [Option.isNone_some] at heq
  clear hcc hb0 hb hp hg
  go_enter Try.func61, Try.ntmps61
  go_wp2_with (at_builtin; refine Gf.wp_app1 (by rfl) _ _ _ (by rfl) _ _ _ _ (by rfl) (by rfl) hr ?_)
  go_ret
  exact ⟨_, _, rfl, HP.out, hg', hc, HB.out⟩

theorem clone_none (a : Option Addr) (c : Nat) (w : World) :
    Calls Try.prog 61 #[.slice a 0 c] w fun e w' => ∃ b d, e = .returned (.slice b 0 d) ∧ Below w.heap.size w w' := by
  cases a with
  | none =>
    have heq := eql_nil none 0 c
    simp only [Option.isNone_none] at heq
    go_enter Try.func61, Try.ntmps61
    go_wp2
    go_ret
    exact ⟨_, _, rfl, Below.refl _ _⟩
  | some x =>
    have heq := eql_nil (some x) 0 c
    simp only [Option.isNone_some] at heq
    have hr := app_none (P := Try.prog) 27 27 36 _ _ _ underShards infoShard ⟨w.heap.size, 0, none⟩ (some x) c (w.alloc (.cells #[] 36))
    go_enter Try.func61, Try.ntmps61
    go_wp2_with (at_builtin; refine Gf.wp_app1 (by rfl) _ _ _ (by rfl) _ _ _ _ (by rfl) (by rfl) hr ?_)
    go_ret
    exact ⟨_, _, rfl, (Below.refl _ _).alloc (Nat.le_refl _) _⟩

set_option maxRecDepth 100000 in
theorem rising_any (v : Value) (l : List E) (w : World) (h : Pends w v l) (hn : l.length ≤ 2000) :
    Calls Try.prog 38 #[v] w fun e w' => ∃ a cap l', e = .returned (.slice a l.length cap) ∧ l'.Perm l ∧ Sorted l' 0 l.length ∧ Pends w' (.slice a l.length cap) l' ∧ l.length ≤ cap ∧ Below w.heap.size w w' := by
  by_cases h0 : l.length = 0
  · obtain ⟨a, c, rfl, _⟩ := h
    obtain rfl : l = [] := List.length_eq_zero_iff.1 h0
    clear h0
    go_enter Try.func38, Try.ntmps38
    go_wp2_with fail
    refine (clone_none a c w).mono ?_
    rintro e w1 ⟨b, d, rfl, hb⟩
    go_wp2_with fail
    refine (sortStable_none b d _ _).mono ?_
    rintro e w2 ⟨rfl, rfl⟩
    go_wp2
    go_ret
    exact ⟨b, d, [], rfl, List.Perm.refl _, Sorted.one (by simp), ⟨b, d, rfl, fun j hj => by simp at hj⟩, by simp, hb⟩
  · have HC : Hid (Calls Try.prog 61 #[v] w fun e w' => ∃ g cap, e = .returned (.slice (some ⟨g, 0, none⟩) l.length cap) ∧ PendsAt w' g 0 l ∧ w.heap.size ≤ g ∧ l.length ≤ cap ∧ Below w.heap.size w w') := clone_some v l w h (by omega) (by omega)
    obtain ⟨a, c, rfl, _⟩ := h
    clear h0
    go_enter Try.func38, Try.ntmps38
    go_wp2_with fail
    refine HC.out.mono ?_
    rintro e w1 ⟨g, cap, rfl, hp, hg, hc, hb⟩
    have HP : Hid (PendsAt w1 g 0 l) := hp
    have HB : Hid (Below w.heap.size w w1) := hb
    have hz := hb.size
    clear hp hb
    go_wp2_with fail
    refine (sortStable_any g cap l _ HP.out hn).mono ?_
    rintro e w2 ⟨rfl, l', h1, h2, h3, h4⟩
    have HL : Hid (l'.length = l.length) := h1.length_eq
    have H1 : Hid (l'.Perm l) := h1
    have H2 : Hid (Sorted l' 0 l.length) := h2
    have H3 : Hid (Pends w2 (.slice (some ⟨g, 0, none⟩) l.length cap) l') := by
      have := h3.pends cap
      rw [HL.out] at this; exact this
    have HB2 : Hid (Below w.heap.size w w2) := h4.below HB.out hz (fun k hk e => by omega)
    clear h1 h2 h3 h4
    go_wp2
    go_ret
    exact ⟨_, cap, l', rfl, H1.out, H2.out, H3.out, hc, HB2.out⟩
end Go.Proofs.Ytkanhjafchiikaa.Srt
