/- What the program's closure of weights answers, and sums of pieces as lists. -/
import Derived.Test.YtkanhjafchiikabTextsD
namespace Go.Proofs.Ytkanhjafchiikab.Gf
open Go.RowKit Go.Proofs.Ytkanhjafchiikab.Mem

theorem implDivN_any (a b : Nat) (w : World) (ha : a < 256) (hb : b < 256) :
    Calls Try.prog 45 #[.int .i64 a, .int .i64 b] w fun e w' => e = .returned (.int .i64 (mul a (inv b) : Nat)) ∧ w = w' :=
  (implDiv_any a b w).mono fun _ _ h => ⟨by rw [h.1, divZ_nat ha hb], h.2⟩

/-- What the closure of weights holds: the places xs, and a place t. -/
def Clos (w : World) (bx bt : Nat) (xs : List Nat) (t : Nat) : Prop := ∃ vx, w.cell? ⟨bx, 0, none⟩ = some vx ∧ w.cell? ⟨bt, 0, none⟩ = some (.int .i64 (t : Nat)) ∧ NumsK .i64 w vx xs
theorem Clos.below {w W : World} {bx bt : Nat} {xs : List Nat} {t : Nat} (h : Clos w bx bt xs t) (hb : Below w.heap.size w W) : Clos W bx bt xs t := by
  obtain ⟨vx, h1, h2, h3⟩ := h
  exact ⟨vx, (hb.cell (World.block_lt_of_cell? w _ h1)).trans h1, (hb.cell (World.block_lt_of_cell? w _ h2)).trans h2, h3.below hb⟩

set_option maxRecDepth 100000 in
set_option maxHeartbeats 1000000 in
theorem count_any (i bx bt : Nat) (xs : List Nat) (t : Nat) (w : World) (h : Clos w bx bt xs t) (hx : Els xs) (ht : t < 256) (hi : i < xs.length) (hn : xs.length ≤ 1000) :
    Calls Try.prog 44 #[.int .i64 i, .pointer (some ⟨bx, 0, none⟩), .pointer (some ⟨bt, 0, none⟩)] w fun e w' => e = .returned (.int .i64 (weight xs t i : Nat)) ∧ ∃ n, w' = w.drewN n := by
  obtain ⟨vx, q1, q2, a, cap, rfl, hc⟩ := h
  have HC : Hid (∀ j (h : j < xs.length), ∃ b o, a = some ⟨b, o, none⟩ ∧ w.cell? ⟨b, o + j, none⟩ = some (.int .i64 (xs[j] : Nat))) := hc
  have HX : Hid (Els xs) := hx
  have HE : Hid (weight xs t i = wt xs t i xs.length) := rfl
  have HQ1 : Hid (w.cell? ⟨bx, 0, none⟩ = some (.slice a xs.length cap)) := q1
  have HQ2 : Hid (w.cell? ⟨bt, 0, none⟩ = some (.int .i64 (t : Nat))) := q2
  clear hc hx
  generalize weight xs t i = z at *
  go_enter Try.func44, Try.ntmps44
  go_wp2
  go_loopw [5, 10] (fun c j wr => ∃ k : Nat, k ≤ xs.length ∧ j = .int .i64 k ∧ c = .int .i64 (wt xs t i k : Nat) ∧ ∃ n, wr = w.drewN n) (fun _ j _ => xs.length - (intOf j).toNat)
  case atStart => exact ⟨0, by omega, rfl, rfl, 0, rfl⟩
  case round =>
    obtain ⟨m, hm, rfl, rfl, n, rfl⟩ := hrel
    by_cases hlm : m < xs.length
    · obtain ⟨b, o, rfl, c1⟩ := HC.out m hlm
      have p2 : (m : Int) < (xs.length : Int) := by omega
      by_cases hmk : m = i
      · subst hmk
        have HW : Hid (wt xs t m (m + 1) = wt xs t m m) := by show _ = _; rw [wt, if_pos rfl]
        generalize wt xs t m m = c at *
        generalize xs[m] = xm at *
        go_wp2
        go_roundw
        case rel => exact ⟨m + 1, by omega, by go_num, val_int (by rw [HW.out]), n, rfl⟩
        case measure => simp [intOf]; omega
      · obtain ⟨b', o', hbo, c2⟩ := HC.out i hi
        injection hbo with hbo
        injection hbo with e1 e2 _
        subst e1 e2
        have hxm := HX.out.at hlm
        have hxi := HX.out.at hi
        have gm := getD_at hlm
        have gi := getD_at hi
        have HW : Hid (wt xs t i (m + 1) = mul (wt xs t i m) (mul (t ^^^ xs[m]) (inv (xs[i] ^^^ xs[m])))) := by show _ = _; rw [wt, if_neg hmk, gm, gi]
        have hwl := wt_lt xs t i m
        generalize wt xs t i m = c at *
        generalize xs[m] = xm at *
        generalize xs[i] = xi at *
        have x1 := xorN ht hxm
        have x2 := xorN hxi hxm
        have l1 := xor8 ht hxm
        have l2 := xor8 hxi hxm
        generalize t ^^^ xm = q at *
        generalize xi ^^^ xm = p at *
        have l4 : mul q (inv p) < 256 := mul_lt l1
        have p4 : (i : Int) < (xs.length : Int) := by omega
        have p3 : ((m : Int) == (i : Int)) = false := by rw [beq_eq_false_iff_ne]; omega
        clear gm gi
        go_wp2_with fail
        go_region_held3 (fun w' => w'.cell? ⟨bx, 0, none⟩ = some (.slice (some ⟨b, o, none⟩) xs.length cap) ∧ w'.cell? ⟨bt, 0, none⟩ = some (.int .i64 (t : Nat)) ∧ w'.cell? ⟨b, o + i, none⟩ = some (.int .i64 (xi : Nat))) (go_keep)
          (first
            | (go_at_call 45; refine (implDivN_any _ _ _ (by assumption) (by assumption)).mono ?_; rintro e w' ⟨rfl, rfl⟩)
            | (go_at_call 43; refine (mulP_any _ _ _ (by assumption) (by assumption)).mono ?_; rintro e w' ⟨rfl, rfl⟩))
        go_wp2
        go_roundw
        case rel => exact ⟨m + 1, by omega, by go_num, val_int (by rw [HW.out]), _, rfl⟩
        case measure => simp [intOf]; omega
    · obtain rfl : m = xs.length := by omega
      rw [← HE.out]
      go_wp2
      go_ret
      exact ⟨rfl, n, rfl⟩

/-- The value v reads as the lists ps of numbers of kind k. -/
def Lists (k : IntKind) (W : World) (v : Value) (ps : List (List Nat)) : Prop :=
  ∃ a cap, v = .slice a ps.length cap ∧ ∀ j (h : j < ps.length), ∃ b o u, a = some ⟨b, o, none⟩ ∧ W.cell? ⟨b, o + j, none⟩ = some u ∧ NumsK k W u ps[j]
theorem Lists.below {k : IntKind} {W W' : World} {v : Value} {l : List (List Nat)} (h : Lists k W v l) (hb : Below W.heap.size W W') : Lists k W' v l := by
  obtain ⟨a, cap, hv, hc⟩ := h
  refine ⟨a, cap, hv, fun j hj => ?_⟩
  obtain ⟨b, o, u, ha, hcell, hn⟩ := hc j hj
  exact ⟨b, o, u, ha, (hb.cell (World.block_lt_of_cell? W _ hcell)).trans hcell, hn.below hb⟩

/-- the sum of the pieces at place j, each as often as c says; the first k of them -/
def mixAt (c : Nat → Nat) (ps : List (List Nat)) (j k : Nat) : Nat := sumTo c (fun i => (ps.getD i []).getD j 0) k
/-- the sum in the midst: at the first m places one piece more -/
def mixRow (c : Nat → Nat) (ps : List (List Nat)) (L i m : Nat) : List Nat := (List.range L).map fun j => if j < m then mixAt c ps j (i + 1) else mixAt c ps j i
def mixed (c : Nat → Nat) (ps : List (List Nat)) (L : Nat) : List Nat := (List.range L).map fun j => mixAt c ps j ps.length
theorem length_mixRow (c : Nat → Nat) (ps : List (List Nat)) (L i m : Nat) : (mixRow c ps L i m).length = L := by simp [mixRow]
theorem mixRow_start (c : Nat → Nat) (ps : List (List Nat)) (L : Nat) (k : IntKind) : ncells k (mixRow c ps L 0 0) = List.replicate L (.int k 0) := by
  apply List.ext_getElem
  · simp [ncells, mixRow]
  · intro j h1 h2; simp [ncells, mixRow, mixAt, sumTo]
theorem mixRow_next (c : Nat → Nat) (ps : List (List Nat)) (L i : Nat) : mixRow c ps L i L = mixRow c ps L (i + 1) 0 := by
  unfold mixRow
  apply List.map_congr_left
  intro j hj
  have : j < L := by simpa using hj
  simp [this]
theorem mixRow_end (c : Nat → Nat) (ps : List (List Nat)) (L : Nat) : mixRow c ps L ps.length 0 = mixed c ps L := by
  unfold mixRow mixed
  apply List.map_congr_left
  intro j hj
  simp
theorem mixRow_at (c : Nat → Nat) (ps : List (List Nat)) (L i m : Nat) (k : IntKind) (hm : m < L) : (ncells k (mixRow c ps L i m))[m]? = some (.int k (mixAt c ps m i : Nat)) := by
  simp [ncells, mixRow, hm]
theorem mixRow_set (c : Nat → Nat) (ps : List (List Nat)) (L i m : Nat) (k : IntKind) : (ncells k (mixRow c ps L i m)).set m (.int k (mixAt c ps m (i + 1) : Nat)) = ncells k (mixRow c ps L i (m + 1)) := by
  apply List.ext_getElem
  · simp [ncells, mixRow]
  · intro j h1 h2
    by_cases e : m = j
    · subst e; simp [ncells, mixRow]
    · rw [List.getElem_set_ne e]
      by_cases e2 : j < m
      · have : j < m + 1 := by omega
        simp [ncells, mixRow, e2, this]
      · have : ¬ j < m + 1 := by omega
        simp [ncells, mixRow, e2, this]
theorem mixAt_succ (c : Nat → Nat) (ps : List (List Nat)) (m i : Nat) (hi : i < ps.length) (hm : m < ps[i].length) : mixAt c ps m (i + 1) = mixAt c ps m i ^^^ mul (c i) ps[i][m] := by
  unfold mixAt
  rw [sumTo]
  simp [List.getD, hi, hm]
theorem mixAt_lt (c : Nat → Nat) (ps : List (List Nat)) (j k : Nat) (hc : ∀ i, c i < 256) : mixAt c ps j k < 256 := sumTo_lt _ _ hc _
end Go.Proofs.Ytkanhjafchiikab.Gf
