/- Laws that the proof rests on, put together: What Interp asks and answers, as a function of lists of numbers. What the program's lineRight answers. What the program's closure of weights answers, and sums of pieces as lists. Spread as a function of lists of numbers and of texts. The line through places at one of these places. Polynomials over the elements: one of degree less than n is told by any n of its places. What the program's mix of numbers answers. What the program's Interp answers. A frame as eight cells, and when it is right. -/
import Derived.Test.YtkanhjafchiikaaSpecWeights
/- What Interp asks and answers, as a function of lists of numbers. -/
namespace Go.Proofs.Ytkanhjafchiikaa.Gf
open Go.RowKit Go.Proofs.Ytkanhjafchiikaa.Mem

def okAt (xs ys : List Int) (i : Nat) : Bool := el (xs.getD i 0) && el (ys.getD i 0) && (List.range i).all fun j => decide (xs.getD j 0 ≠ xs.getD i 0)
def okAll (xs ys : List Int) : Bool := (List.range xs.length).all (okAt xs ys)
def headOk (xs ys : List Int) (t : Int) : Bool := decide (1 ≤ xs.length) && decide (xs.length ≤ 10) && decide (ys.length = xs.length) && el t
def lineOk (xs ys : List Int) (t : Int) : Bool := headOk xs ys t && okAll xs ys
def interpZ (xs ys : List Int) (t : Int) : Int := if lineOk xs ys t then (line (xs.map Int.toNat) (ys.map Int.toNat) t.toNat : Nat) else 0

theorem getZ {xs : List Int} {j : Nat} (h : j < xs.length) : xs.getD j 0 = xs[j] := by simp [List.getD, h]
theorem okAt_no1 {xs ys : List Int} {i : Nat} (h : el (xs.getD i 0) = false) : okAt xs ys i = false := by unfold okAt; rw [h]; rfl
theorem okAt_no2 {xs ys : List Int} {i : Nat} (h : el (ys.getD i 0) = false) : okAt xs ys i = false := by unfold okAt; rw [h, Bool.and_false]; rfl
theorem okAt_no3 {xs ys : List Int} {i j : Nat} (hj : j < i) (h : xs.getD j 0 = xs.getD i 0) : okAt xs ys i = false := by
  have : ((List.range i).all fun j => decide (xs.getD j 0 ≠ xs.getD i 0)) = false := by
    rw [List.all_eq_false]
    exact ⟨j, by simpa using hj, by rw [h]; simp⟩
  unfold okAt; rw [this]; simp
theorem okAt_yes {xs ys : List Int} {i : Nat} (h1 : el (xs.getD i 0) = true) (h2 : el (ys.getD i 0) = true) (h : ∀ j, j < i → xs.getD j 0 ≠ xs.getD i 0) : okAt xs ys i = true := by
  unfold okAt
  rw [h1, h2, Bool.and_self, Bool.true_and, List.all_eq_true]
  intro j hj
  simpa using h j (by simpa using hj)
theorem okAll_no {xs ys : List Int} {i : Nat} (hi : i < xs.length) (h : okAt xs ys i = false) : okAll xs ys = false := by
  unfold okAll
  rw [List.all_eq_false]
  exact ⟨i, by simpa using hi, by simp [h]⟩
theorem okAll_yes {xs ys : List Int} (h : ∀ i, i < xs.length → okAt xs ys i = true) : okAll xs ys = true := by
  unfold okAll
  rw [List.all_eq_true]
  intro i hi
  exact h i (by simpa using hi)
theorem okAt_el1 {xs ys : List Int} {i : Nat} (h : okAt xs ys i = true) : el (xs.getD i 0) = true := by unfold okAt at h; rw [Bool.and_eq_true, Bool.and_eq_true] at h; exact h.1.1
theorem okAt_el2 {xs ys : List Int} {i : Nat} (h : okAt xs ys i = true) : el (ys.getD i 0) = true := by unfold okAt at h; rw [Bool.and_eq_true, Bool.and_eq_true] at h; exact h.1.2
theorem okAt_ne {xs ys : List Int} {i : Nat} (h : okAt xs ys i = true) (j : Nat) (hj : j < i) : xs.getD j 0 ≠ xs.getD i 0 := by
  unfold okAt at h
  rw [Bool.and_eq_true, List.all_eq_true] at h
  have := h.2 j (by simpa using hj)
  simpa using this
theorem okAll_at {xs ys : List Int} (h : okAll xs ys = true) (i : Nat) (hi : i < xs.length) : okAt xs ys i = true := by
  unfold okAll at h
  rw [List.all_eq_true] at h
  exact h i (by simpa using hi)
theorem interp_no {xs ys : List Int} {t : Int} (h : lineOk xs ys t = false) : interpZ xs ys t = 0 := by unfold interpZ; rw [h]; rfl
theorem interp_no' {xs ys : List Int} {t : Int} {i : Nat} (hi : i < xs.length) (h : okAt xs ys i = false) : interpZ xs ys t = 0 := by
  apply interp_no; unfold lineOk; rw [okAll_no hi h]; simp
theorem interp_yes {xs ys : List Int} {t : Int} (hh : headOk xs ys t = true) (h : ∀ i, i < xs.length → okAt xs ys i = true) : interpZ xs ys t = (line (xs.map Int.toNat) (ys.map Int.toNat) t.toNat : Nat) := by
  unfold interpZ; rw [if_pos]; unfold lineOk; rw [hh, okAll_yes h]; rfl
theorem el_bd {a : Int} (h : el a = true) : 0 ≤ a ∧ a ≤ 255 := by simpa [el] using h
theorem els_of {xs ys : List Int} (hl : ys.length = xs.length) (h : ∀ i, i < xs.length → okAt xs ys i = true) : (∀ x ∈ xs, 0 ≤ x) ∧ (∀ x ∈ ys, 0 ≤ x) ∧ Els (xs.map Int.toNat) ∧ Els (ys.map Int.toNat) := by
  have h1 : ∀ x ∈ xs, 0 ≤ x ∧ x ≤ 255 := fun x hx => by
    obtain ⟨i, hi, rfl⟩ := List.getElem_of_mem hx
    have := el_bd (okAt_el1 (h i hi)); rwa [getZ hi] at this
  have h2 : ∀ x ∈ ys, 0 ≤ x ∧ x ≤ 255 := fun x hx => by
    obtain ⟨i, hi, rfl⟩ := List.getElem_of_mem hx
    have := el_bd (okAt_el2 (h i (by omega))); rwa [getZ hi] at this
  refine ⟨fun x hx => (h1 x hx).1, fun x hx => (h2 x hx).1, fun x hx => ?_, fun x hx => ?_⟩
  · obtain ⟨y, hy, rfl⟩ := List.mem_map.1 hx; have := h1 y hy; omega
  · obtain ⟨y, hy, rfl⟩ := List.mem_map.1 hx; have := h2 y hy; omega
theorem headOk_parts {xs ys : List Int} {t : Int} (h : headOk xs ys t = true) : 1 ≤ xs.length ∧ xs.length ≤ 10 ∧ ys.length = xs.length ∧ el t = true := by
  unfold headOk at h; simp only [Bool.and_eq_true, decide_eq_true_eq] at h; exact ⟨h.1.1.1, h.1.1.2, h.1.2, h.2⟩
theorem headOk_not {xs ys : List Int} {t : Int} (h : headOk xs ys t = false) : xs.length < 1 ∨ (¬ xs.length < 1 ∧ 10 < xs.length) ∨ (¬ xs.length < 1 ∧ ¬ 10 < xs.length ∧ ¬ ys.length = xs.length) ∨ (¬ xs.length < 1 ∧ ¬ 10 < xs.length ∧ ys.length = xs.length ∧ el t = false) := by
  by_cases h1 : xs.length < 1
  · exact .inl h1
  · by_cases h2 : 10 < xs.length
    · exact .inr (.inl ⟨h1, h2⟩)
    · by_cases h3 : ys.length = xs.length
      · refine .inr (.inr (.inr ⟨h1, h2, h3, ?_⟩))
        have a1 : decide (1 ≤ xs.length) = true := decide_eq_true (by omega)
        have a2 : decide (xs.length ≤ 10) = true := decide_eq_true (by omega)
        have a3 : decide (ys.length = xs.length) = true := decide_eq_true h3
        unfold headOk at h
        rw [a1, a2, a3] at h; simpa using h
      · exact .inr (.inr (.inl ⟨h1, h2, h3⟩))
theorem interp_head {xs ys : List Int} {t : Int} (h : headOk xs ys t = false) : interpZ xs ys t = 0 := by
  apply interp_no; unfold lineOk; rw [h]; rfl
theorem sumTo_map (xs ys : List Int) (t : Nat) (k : Nat) (hk : k < ys.length) (y : Nat) (hy : ys[k] = (y : Nat)) :
    sumTo (weight (xs.map Int.toNat) t) (fun i => (ys.map Int.toNat).getD i 0) (k + 1) = sumTo (weight (xs.map Int.toNat) t) (fun i => (ys.map Int.toNat).getD i 0) k ^^^ mul (weight (xs.map Int.toNat) t k) y := by
  rw [sumTo]
  have : (ys.map Int.toNat).getD k 0 = y := by simp [List.getD, hk, hy]
  rw [this]
end Go.Proofs.Ytkanhjafchiikaa.Gf

/- What the program's lineRight answers. -/
namespace Go.Proofs.Ytkanhjafchiikaa.Gf
open Go.RowKit Go.Proofs.Ytkanhjafchiikaa.Mem

theorem isEl2_any (a : Int) (w : World) : Calls Try.prog 73 #[.int .i64 a] w fun e w' => e = .returned (.bool (el a)) ∧ w = w' := (isEl_any a w).mono fun _ _ h => ⟨h.1, h.2.symm⟩
theorem lineOk_yes {xs ys : List Int} {t : Int} (hh : headOk xs ys t = true) (h : ∀ i, i < xs.length → okAt xs ys i = true) : lineOk xs ys t = true := by unfold lineOk; rw [hh, okAll_yes h]; rfl
theorem lineOk_no {xs ys : List Int} {t : Int} {i : Nat} (hi : i < xs.length) (h : okAt xs ys i = false) : lineOk xs ys t = false := by unfold lineOk; rw [okAll_no hi h]; simp
theorem lineOk_head {xs ys : List Int} {t : Int} (h : headOk xs ys t = false) : lineOk xs ys t = false := by unfold lineOk; rw [h]; rfl

end Go.Proofs.Ytkanhjafchiikaa.Gf

/- What the program's closure of weights answers, and sums of pieces as lists. -/
namespace Go.Proofs.Ytkanhjafchiikaa.Gf
open Go.RowKit Go.Proofs.Ytkanhjafchiikaa.Mem

theorem implDivN_any (a b : Nat) (w : World) (ha : a < 256) (hb : b < 256) :
    Calls Try.prog 59 #[.int .i64 a, .int .i64 b] w fun e w' => e = .returned (.int .i64 (mul a (inv b) : Nat)) ∧ w = w' :=
  (implDiv_any a b w).mono fun _ _ h => ⟨by rw [h.1, divZ_nat ha hb], h.2⟩

/-- What the closure of weights holds: the places xs, and a place t. -/
def Clos (w : World) (bx bt : Nat) (xs : List Nat) (t : Nat) : Prop := ∃ vx, w.cell? ⟨bx, 0, none⟩ = some vx ∧ w.cell? ⟨bt, 0, none⟩ = some (.int .i64 (t : Nat)) ∧ NumsK .i64 w vx xs
theorem Clos.below {w W : World} {bx bt : Nat} {xs : List Nat} {t : Nat} (h : Clos w bx bt xs t) (hb : Below w.heap.size w W) : Clos W bx bt xs t := by
  obtain ⟨vx, h1, h2, h3⟩ := h
  exact ⟨vx, (hb.cell (World.block_lt_of_cell? w _ h1)).trans h1, (hb.cell (World.block_lt_of_cell? w _ h2)).trans h2, h3.below hb⟩

set_option maxRecDepth 100000 in
set_option maxHeartbeats 1000000 in
theorem count_any (i bx bt : Nat) (xs : List Nat) (t : Nat) (w : World) (h : Clos w bx bt xs t) (hx : Els xs) (ht : t < 256) (hi : i < xs.length) (hn : xs.length ≤ 1000) :
    Calls Try.prog 58 #[.int .i64 i, .pointer (some ⟨bx, 0, none⟩), .pointer (some ⟨bt, 0, none⟩)] w fun e w' => e = .returned (.int .i64 (weight xs t i : Nat)) ∧ ∃ n, w' = w.drewN n := by
  obtain ⟨vx, q1, q2, a, cap, rfl, hc⟩ := h
  have HC : Hid (∀ j (h : j < xs.length), ∃ b o, a = some ⟨b, o, none⟩ ∧ w.cell? ⟨b, o + j, none⟩ = some (.int .i64 (xs[j] : Nat))) := hc
  have HX : Hid (Els xs) := hx
  have HE : Hid (weight xs t i = wt xs t i xs.length) := rfl
  have HQ1 : Hid (w.cell? ⟨bx, 0, none⟩ = some (.slice a xs.length cap)) := q1
  have HQ2 : Hid (w.cell? ⟨bt, 0, none⟩ = some (.int .i64 (t : Nat))) := q2
  clear hc hx
  generalize weight xs t i = z at *
  go_enter Try.func58, Try.ntmps58
  go_wp2
  go_loopw [5, 10] (fun c j wr => ∃ k : Nat, k ≤ xs.length ∧ j = .int .i64 k ∧ c = .int .i64 (wt xs t i k : Nat) ∧ ∃ n, wr = w.drewN n) (fun _ j _ => xs.length - (intOf j).toNat)
  case atStart => exact ⟨0, by omega, rfl, rfl, 0, rfl⟩
  case round =>
    obtain ⟨m, hm, rfl, rfl, n, rfl⟩ := hrel
    by_cases hlm : m < xs.length
    · obtain ⟨b, o, rfl, c1⟩ := HC.out m hlm
      have p2 : (m : Int) < (xs.length : Int) := by omega
      by_cases hmk : m = i
      · subst hmk
        have HW : Hid (wt xs t m (m + 1) = wt xs t m m) := by show _ = _; rw [wt, if_pos rfl]
        generalize wt xs t m m = c at *
        generalize xs[m] = xm at *
        go_wp2
        go_roundw
        case rel => exact ⟨m + 1, by omega, by go_num, val_int (by rw [HW.out]), n, rfl⟩
        case measure => simp [intOf]; omega
      · obtain ⟨b', o', hbo, c2⟩ := HC.out i hi
        injection hbo with hbo
        injection hbo with e1 e2 _
        subst e1 e2
        have hxm := HX.out.at hlm
        have hxi := HX.out.at hi
        have gm := getD_at hlm
        have gi := getD_at hi
        have HW : Hid (wt xs t i (m + 1) = mul (wt xs t i m) (mul (t ^^^ xs[m]) (inv (xs[i] ^^^ xs[m])))) := by show _ = _; rw [wt, if_neg hmk, gm, gi]
        have hwl := wt_lt xs t i m
        generalize wt xs t i m = c at *
        generalize xs[m] = xm at *
        generalize xs[i] = xi at *
        have x1 := xorN ht hxm
        have x2 := xorN hxi hxm
        have l1 := xor8 ht hxm
        have l2 := xor8 hxi hxm
        generalize t ^^^ xm = q at *
        generalize xi ^^^ xm = p at *
        have l4 : mul q (inv p) < 256 := mul_lt l1
        have p4 : (i : Int) < (xs.length : Int) := by omega
        have p3 : ((m : Int) == (i : Int)) = false := by rw [beq_eq_false_iff_ne]; omega
        clear gm gi
        go_wp2_with fail
        go_region_held3 (fun w' => w'.cell? ⟨bx, 0, none⟩ = some (.slice (some ⟨b, o, none⟩) xs.length cap) ∧ w'.cell? ⟨bt, 0, none⟩ = some (.int .i64 (t : Nat)) ∧ w'.cell? ⟨b, o + i, none⟩ = some (.int .i64 (xi : Nat))) (go_keep)
          (first
            | (go_at_call 59; refine (implDivN_any _ _ _ (by assumption) (by assumption)).mono ?_; rintro e w' ⟨rfl, rfl⟩)
            | (go_at_call 57; refine (mulP_any _ _ _ (by assumption) (by assumption)).mono ?_; rintro e w' ⟨rfl, rfl⟩))
        go_wp2
        go_roundw
        case rel => exact ⟨m + 1, by omega, by go_num, val_int (by rw [HW.out]), _, rfl⟩
        case measure => simp [intOf]; omega
    · obtain rfl : m = xs.length := by omega
      rw [← HE.out]
      go_wp2
      go_ret
      exact ⟨rfl, n, rfl⟩

/-- The value v reads as the lists ps of numbers of kind k. -/
def Lists (k : IntKind) (W : World) (v : Value) (ps : List (List Nat)) : Prop :=
  ∃ a cap, v = .slice a ps.length cap ∧ ∀ j (h : j < ps.length), ∃ b o u, a = some ⟨b, o, none⟩ ∧ W.cell? ⟨b, o + j, none⟩ = some u ∧ NumsK k W u ps[j]
theorem Lists.below {k : IntKind} {W W' : World} {v : Value} {l : List (List Nat)} (h : Lists k W v l) (hb : Below W.heap.size W W') : Lists k W' v l := by
  obtain ⟨a, cap, hv, hc⟩ := h
  refine ⟨a, cap, hv, fun j hj => ?_⟩
  obtain ⟨b, o, u, ha, hcell, hn⟩ := hc j hj
  exact ⟨b, o, u, ha, (hb.cell (World.block_lt_of_cell? W _ hcell)).trans hcell, hn.below hb⟩

/-- the sum of the pieces at place j, each as often as c says; the first k of them -/
def mixAt (c : Nat → Nat) (ps : List (List Nat)) (j k : Nat) : Nat := sumTo c (fun i => (ps.getD i []).getD j 0) k
/-- the sum in the midst: at the first m places one piece more -/
def mixRow (c : Nat → Nat) (ps : List (List Nat)) (L i m : Nat) : List Nat := (List.range L).map fun j => if j < m then mixAt c ps j (i + 1) else mixAt c ps j i
def mixed (c : Nat → Nat) (ps : List (List Nat)) (L : Nat) : List Nat := (List.range L).map fun j => mixAt c ps j ps.length
theorem length_mixRow (c : Nat → Nat) (ps : List (List Nat)) (L i m : Nat) : (mixRow c ps L i m).length = L := by simp [mixRow]
theorem mixRow_start (c : Nat → Nat) (ps : List (List Nat)) (L : Nat) (k : IntKind) : ncells k (mixRow c ps L 0 0) = List.replicate L (.int k 0) := by
  apply List.ext_getElem
  · simp [ncells, mixRow]
  · intro j h1 h2; simp [ncells, mixRow, mixAt, sumTo]
theorem mixRow_next (c : Nat → Nat) (ps : List (List Nat)) (L i : Nat) : mixRow c ps L i L = mixRow c ps L (i + 1) 0 := by
  unfold mixRow
  apply List.map_congr_left
  intro j hj
  have : j < L := by simpa using hj
  simp [this]
theorem mixRow_end (c : Nat → Nat) (ps : List (List Nat)) (L : Nat) : mixRow c ps L ps.length 0 = mixed c ps L := by
  unfold mixRow mixed
  apply List.map_congr_left
  intro j hj
  simp
theorem mixRow_at (c : Nat → Nat) (ps : List (List Nat)) (L i m : Nat) (k : IntKind) (hm : m < L) : (ncells k (mixRow c ps L i m))[m]? = some (.int k (mixAt c ps m i : Nat)) := by
  simp [ncells, mixRow, hm]
theorem mixRow_set (c : Nat → Nat) (ps : List (List Nat)) (L i m : Nat) (k : IntKind) : (ncells k (mixRow c ps L i m)).set m (.int k (mixAt c ps m (i + 1) : Nat)) = ncells k (mixRow c ps L i (m + 1)) := by
  apply List.ext_getElem
  · simp [ncells, mixRow]
  · intro j h1 h2
    by_cases e : m = j
    · subst e; simp [ncells, mixRow]
    · rw [List.getElem_set_ne e]
      by_cases e2 : j < m
      · have : j < m + 1 := by omega
        simp [ncells, mixRow, e2, this]
      · have : ¬ j < m + 1 := by omega
        simp [ncells, mixRow, e2, this]
theorem mixAt_succ (c : Nat → Nat) (ps : List (List Nat)) (m i : Nat) (hi : i < ps.length) (hm : m < ps[i].length) : mixAt c ps m (i + 1) = mixAt c ps m i ^^^ mul (c i) ps[i][m] := by
  unfold mixAt
  rw [sumTo]
  simp [List.getD, hi, hm]
theorem mixAt_lt (c : Nat → Nat) (ps : List (List Nat)) (j k : Nat) (hc : ∀ i, c i < 256) : mixAt c ps j k < 256 := sumTo_lt _ _ hc _
end Go.Proofs.Ytkanhjafchiikaa.Gf

/- Spread as a function of lists of numbers and of texts. -/
namespace Go.Proofs.Ytkanhjafchiikaa.Gf
open Go.RowKit

def toB (l : List Nat) : ByteArray := ⟨(l.map UInt8.ofNat).toArray⟩
def nb (s : ByteArray) : List Nat := s.data.toList.map UInt8.toNat
theorem nb_len (s : ByteArray) : (nb s).length = s.size := by simp [nb]
theorem toB_size (l : List Nat) : (toB l).size = l.length := by unfold toB; show (Array.size _) = _; simp
theorem nb_els (s : ByteArray) : Els (nb s) := fun x hx => by
  obtain ⟨b, _, rfl⟩ := List.mem_map.1 hx; exact b.toNat_lt
theorem toB_nb (s : ByteArray) : toB (nb s) = s := by
  apply ByteArray.ext
  simp [toB, nb, Function.comp_def]
theorem nb_toB {l : List Nat} (h : Els l) : nb (toB l) = l := by
  unfold nb toB
  simp only [List.map_map]
  have : ∀ x ∈ l, (UInt8.toNat ∘ UInt8.ofNat) x = x := fun x hx => by
    have := h x hx
    simp; omega
  rw [List.map_congr_left this]; simp
theorem nb_at (s : ByteArray) (k : Nat) (h : k < s.size) : (nb s)[k]'(by rw [nb_len]; exact h) = (s[k]).toNat := by simp [nb]; rfl

def plen (need size : Nat) : Nat := (size + need - 1) / need
theorem plen_ge {need size : Nat} (h : 0 < need) : size ≤ need * plen need size := by
  unfold plen
  have := Nat.div_add_mod (size + need - 1) need
  have := Nat.mod_lt (size + need - 1) h
  omega
theorem plen_le (need size : Nat) : need * plen need size ≤ size + need - 1 := Nat.mul_div_le _ _
theorem plen_pos {need size : Nat} (h : 0 < need) (h2 : 0 < size) : 0 < plen need size := by
  unfold plen; exact Nat.div_pos (by omega) h
theorem plen_small {need size : Nat} (h : 0 < need) : plen need size ≤ size + need := by
  unfold plen; exact Nat.le_trans (Nat.div_le_self _ _) (by omega)
def pad (s : List Nat) (need : Nat) : List Nat := s ++ List.replicate (need * plen need s.length - s.length) 0
theorem pad_len {s : List Nat} {need : Nat} (h : 0 < need) : (pad s need).length = need * plen need s.length := by
  have := plen_ge (size := s.length) h
  simp [pad]; omega
def cutL (s : List Nat) (need i : Nat) : List Nat := ((pad s need).drop (i * plen need s.length)).take (plen need s.length)
theorem cut_room {need L i : Nat} (h : i < need) : i * L + L ≤ need * L := by
  have : (i + 1) * L ≤ need * L := Nat.mul_le_mul (by omega) (Nat.le_refl _)
  rw [Nat.add_mul] at this; omega
theorem cutL_len {s : List Nat} {need i : Nat} (h : i < need) : (cutL s need i).length = plen need s.length := by
  have := cut_room (L := plen need s.length) h
  have := pad_len (s := s) (need := need) (by omega)
  simp [cutL]; omega
theorem pad_els {s : List Nat} (h : Els s) (need : Nat) : Els (pad s need) := fun x hx => by
  rcases List.mem_append.1 hx with h1 | h1
  · exact h x h1
  · have := (List.mem_replicate.1 h1).2; omega
theorem cutL_els {s : List Nat} (h : Els s) (need i : Nat) : Els (cutL s need i) := fun x hx => pad_els h need x (List.mem_of_mem_drop (List.mem_of_mem_take hx))
def firsts (s : List Nat) (need : Nat) : List (List Nat) := (List.range need).map (cutL s need)
/-- the further piece of the number need + i -/
def rest1 (ps : List (List Nat)) (need L i : Nat) : List Nat := mixed (weight (List.range need) (need + i)) ps L
def rests (ps : List (List Nat)) (need L more : Nat) : List (List Nat) := (List.range more).map (rest1 ps need L)
def spreadL (s : List Nat) (need more : Nat) : List (List Nat) := firsts s need ++ rests (firsts s need) need (plen need s.length) more
theorem firsts_len (s : List Nat) (need : Nat) : (firsts s need).length = need := by simp [firsts]
theorem spreadL_len (s : List Nat) (need more : Nat) : (spreadL s need more).length = need + more := by simp [spreadL, firsts, rests]
theorem mixed_len (c : Nat → Nat) (ps : List (List Nat)) (L : Nat) : (mixed c ps L).length = L := by simp [mixed]
theorem mixed_els (c : Nat → Nat) (ps : List (List Nat)) (L : Nat) (h : ∀ i, c i < 256) : Els (mixed c ps L) := fun x hx => by
  obtain ⟨j, _, rfl⟩ := List.mem_map.1 hx; exact mixAt_lt _ _ _ _ h
theorem firsts_all (s : List Nat) (need : Nat) : ∀ p ∈ firsts s need, p.length = plen need s.length := fun p hp => by
  obtain ⟨i, hi, rfl⟩ := List.mem_map.1 hp; exact cutL_len (by simpa using hi)
theorem firsts_els {s : List Nat} (h : Els s) (need : Nat) : ∀ p ∈ firsts s need, Els p := fun p hp => by
  obtain ⟨i, hi, rfl⟩ := List.mem_map.1 hp; exact cutL_els h _ _
theorem firsts_succ (s : List Nat) (need k : Nat) : (List.range (k + 1)).map (cutL s need) = (List.range k).map (cutL s need) ++ [cutL s need k] := by simp [List.range_succ]
theorem rests_succ (ps : List (List Nat)) (need L k : Nat) : rests ps need L (k + 1) = rests ps need L k ++ [rest1 ps need L k] := by simp [rests, List.range_succ]
theorem range_els {n : Nat} (h : n ≤ 256) : Els (List.range n) := fun x hx => by
  have h2 : x < n := by simpa using hx
  omega
/-- may a group be so? -/
def fineB (need more size : Int) : Bool := isB need 1 6 && isB more 0 4 && isB size 1 100
def spreadO (t : ByteArray) (need more : Int) : List ByteArray := if fineB need more t.size then (spreadL (nb t) need.toNat more.toNat).map toB else []
theorem fine_parts {need more size : Int} (h : fineB need more size = true) : ∃ n m s : Nat, need = n ∧ more = m ∧ size = s ∧ 1 ≤ n ∧ n ≤ 6 ∧ m ≤ 4 ∧ 1 ≤ s ∧ s ≤ 100 := by
  simp only [fineB, isB, Bool.and_eq_true, decide_eq_true_eq] at h
  exact ⟨need.toNat, more.toNat, size.toNat, by omega, by omega, by omega, by omega, by omega, by omega, by omega, by omega⟩
end Go.Proofs.Ytkanhjafchiikaa.Gf

/- The line through places at one of these places. -/
namespace Go.Proofs.Ytkanhjafchiikaa.Gf
open Go.RowKit

theorem els_getD {xs : List Nat} (h : Els xs) (j : Nat) : xs.getD j 0 < 256 := by
  by_cases hj : j < xs.length
  · rw [getD_at hj]; exact h.at hj
  · simp [List.getD, List.getElem?_eq_none (Nat.le_of_not_lt hj)]
theorem xor_ne {a b : Nat} (h : a ≠ b) : a ^^^ b ≠ 0 := fun e => h (by
  have h2 : a ^^^ b ^^^ b = a := by rw [Nat.xor_assoc, Nat.xor_self, Nat.xor_zero]
  rw [e, Nat.zero_xor] at h2
  exact h2.symm)
theorem wt_self {xs : List Nat} (hx : Els xs) (i : Nat) (hd : ∀ j, j < xs.length → j ≠ i → xs.getD j 0 ≠ xs.getD i 0) : ∀ k, k ≤ xs.length → wt xs (xs.getD i 0) i k = 1
  | 0, _ => rfl
  | k + 1, hk => by
    rw [wt, wt_self hx i hd k (by omega)]
    split
    · rfl
    · rename_i hne
      have h1 := xor8 (els_getD hx i) (els_getD hx k)
      rw [mul_inv h1 (xor_ne (fun e => hd k (by omega) hne e.symm)), mul_one (by omega)]
theorem wt_other {xs : List Nat} (i j : Nat) (hij : i ≠ j) : ∀ k, i < k → wt xs (xs.getD i 0) j k = 0
  | 0, h => by omega
  | k + 1, h => by
    rw [wt]
    split
    · exact wt_other i j hij k (by omega)
    · by_cases e : i = k
      · subst e
        rw [Nat.xor_self, zero_mul, mul_zero]
      · rw [wt_other i j hij k (by omega), zero_mul]
theorem sumTo_delta {c y : Nat → Nat} {i : Nat} (h1 : c i = 1) (h0 : ∀ j, j ≠ i → c j = 0 ∨ y j = 0) (hy : y i < 256) : ∀ k, sumTo c y k = if i < k then y i else 0
  | 0 => by simp [sumTo]
  | k + 1 => by
    rw [sumTo, sumTo_delta h1 h0 hy k]
    by_cases e : k = i
    · subst e
      rw [h1, one_mul hy]; simp
    · have hz : mul (c k) (y k) = 0 := by
        rcases h0 k e with h | h
        · rw [h, zero_mul]
        · rw [h, mul_zero]
      rw [hz, Nat.xor_zero]
      by_cases e2 : i < k
      · rw [if_pos e2, if_pos (by omega)]
      · rw [if_neg e2, if_neg (by omega)]
theorem line_at {xs ys : List Nat} (hx : Els xs) (hy : Els ys) (i : Nat) (hi : i < xs.length) (hl : ys.length = xs.length) (hd : ∀ j, j < xs.length → j ≠ i → xs.getD j 0 ≠ xs.getD i 0) : line xs ys (xs.getD i 0) = ys.getD i 0 := by
  unfold line
  have h1 : weight xs (xs.getD i 0) i = 1 := wt_self hx i hd _ (Nat.le_refl _)
  rw [sumTo_delta (c := weight xs (xs.getD i 0)) (i := i) h1 (fun j hj => by
    by_cases h : j < xs.length
    · exact .inl (wt_other i j (fun e => hj e.symm) _ hi)
    · right
      simp [List.getD, List.getElem?_eq_none (show ys.length ≤ j by omega)]) (els_getD hy i)]
  rw [if_pos hi]

/-- the two lists may be those of a line -/
def Fine (xs ys : List Int) (i : Nat) : Prop := ∀ j, j < xs.length → el (xs.getD j 0) = true ∧ el (ys.getD j 0) = true ∧ (j ≠ i → xs.getD j 0 ≠ xs.getD i 0)
theorem getD_map (l : List Int) (i : Nat) : (l.map Int.toNat).getD i 0 = (l.getD i 0).toNat := by
  by_cases h : i < l.length
  · simp [List.getD, h]
  · simp [List.getD, h]
theorem interp_at {xs ys : List Int} {i : Nat} (hi : i < xs.length) (hl : ys.length = xs.length) (hn : xs.length ≤ 10) (h : ∀ i, i < xs.length → Fine xs ys i) : interpZ xs ys (xs.getD i 0) = ys.getD i 0 := by
  have hok : ∀ j, j < xs.length → okAt xs ys j = true := fun j hj => okAt_yes (h j hj j hj).1 (h j hj j hj).2.1 (fun m hm => (h j hj m (by omega)).2.2 (by omega))
  have hel := (h i hi i hi).1
  have hey := (h i hi i hi).2.1
  have hh : headOk xs ys (xs.getD i 0) = true := by
    unfold headOk
    rw [hel]
    have a1 : decide (1 ≤ xs.length) = true := decide_eq_true (by omega)
    have a2 : decide (xs.length ≤ 10) = true := decide_eq_true hn
    have a3 : decide (ys.length = xs.length) = true := decide_eq_true hl
    rw [a1, a2, a3]; rfl
  obtain ⟨s1, s2, s3, s4⟩ := els_of hl hok
  rw [interp_yes hh hok, ← getD_map, line_at s3 s4 i (by simpa using hi) (by simp [hl]) (fun j hj hne e => ?_), getD_map]
  · have := el_bd hey; omega
  · rw [getD_map, getD_map] at e
    have hj2 : j < xs.length := by simpa using hj
    have h1 := el_bd (h i hi j hj2).1
    have h2 := el_bd hel
    exact (h i hi j hj2).2.2 hne (by omega)

theorem mulZ_comm (a b : Int) : mulZ a b = mulZ b a := by
  unfold mulZ
  by_cases h1 : el a = true
  · by_cases h2 : el b = true
    · obtain ⟨m, rfl, hm⟩ := el_nat h1
      obtain ⟨n, rfl, hn⟩ := el_nat h2
      simp only [h1, h2, Bool.and_self, if_true, Int.toNat_natCast]
      rw [mul_comm hm hn]
    · have h2' : el b = false := by simpa using h2
      simp [h1, h2']
  · have h1' : el a = false := by simpa using h1
    simp [h1']
theorem el_in {a : Int} (h0 : 0 ≤ a) (h1 : a ≤ 255) : el a = true := by simp [el]; omega
theorem mulInvZ {c : Int} (h0 : 1 ≤ c) (h1 : c ≤ 255) : mulZ c (invZ c) = 1 := by
  obtain ⟨m, rfl, hm⟩ := el_nat (el_in (by omega) h1)
  rw [invZ_nat hm, mulZ_nat hm (inv_lt hm), mul_inv hm (by omega)]; rfl
theorem mulDivZ {a b : Int} (h0 : 0 ≤ a) (h1 : a ≤ 255) (h2 : 1 ≤ b) (h3 : b ≤ 255) : mulZ (divZ a b) b = a := by
  obtain ⟨m, rfl, hm⟩ := el_nat (el_in h0 h1)
  obtain ⟨n, rfl, hn⟩ := el_nat (el_in (by omega) h3)
  rw [divZ_nat hm hn, mulZ_nat (mul_lt hm) hn, mul_assoc hm (inv_lt hn) hn, inv_mul hn (by omega), mul_one hm]
theorem mulXorZ {a b c : Int} (h0 : 0 ≤ a) (h1 : a ≤ 255) (h2 : 1 ≤ b) (h3 : b ≤ 255) (h4 : 0 ≤ c) (h5 : c ≤ 255) : mulZ b (bits .xor .i64 a c) = bits .xor .i64 (mulZ b a) (mulZ b c) := by
  obtain ⟨m, rfl, hm⟩ := el_nat (el_in h0 h1)
  obtain ⟨n, rfl, hn⟩ := el_nat (el_in (by omega) h3)
  obtain ⟨k, rfl, hk⟩ := el_nat (el_in h4 h5)
  rw [mulZ_nat hn hm, mulZ_nat hn hk, xorN hm hk, xorN (mul_lt hn) (mul_lt hn), mulZ_nat hn (xor8 hm hk), mul_xor]
end Go.Proofs.Ytkanhjafchiikaa.Gf

/- Polynomials over the elements: one of degree less than n is told by any n of its places. -/
namespace Go.Proofs.Ytkanhjafchiikaa.Gf
open Go.RowKit

/-- f is, over the elements, a polynomial of degree less than d -/
def Pol : Nat → (Nat → Nat) → Prop
  | 0, f => ∀ t, t < 256 → f t = 0
  | d + 1, f => ∃ c g, c < 256 ∧ Pol d g ∧ ∀ t, t < 256 → f t = c ^^^ mul t (g t)

theorem Pol.lt : ∀ {d : Nat} {f : Nat → Nat}, Pol d f → ∀ t, t < 256 → f t < 256
  | 0, _, h, t, ht => by rw [h t ht]; omega
  | _ + 1, _, ⟨_, _, hc, _, hf⟩, t, ht => by rw [hf t ht]; exact xor8 hc (mul_lt ht)
theorem Pol.congr : ∀ {d : Nat} {f g : Nat → Nat}, Pol d f → (∀ t, t < 256 → g t = f t) → Pol d g
  | 0, _, _, h, e => fun t ht => (e t ht).trans (h t ht)
  | _ + 1, _, _, ⟨c, k, hc, hk, hf⟩, e => ⟨c, k, hc, hk, fun t ht => (e t ht).trans (hf t ht)⟩
theorem Pol.zero : ∀ d : Nat, Pol d (fun _ => 0)
  | 0 => fun _ _ => rfl
  | d + 1 => ⟨0, _, by omega, Pol.zero d, fun t _ => by rw [mul_zero]; rfl⟩
theorem Pol.up : ∀ {d : Nat} {f : Nat → Nat}, Pol d f → Pol (d + 1) f
  | 0, _, h => ⟨0, _, by omega, Pol.zero 0, fun t ht => by rw [h t ht, mul_zero]; rfl⟩
  | _ + 1, _, ⟨c, g, hc, hg, hf⟩ => ⟨c, g, hc, hg.up, hf⟩
theorem Pol.const {d c : Nat} (hc : c < 256) : Pol (d + 1) (fun _ => c) := ⟨c, _, hc, Pol.zero d, fun t _ => by rw [mul_zero, Nat.xor_zero]⟩
theorem Pol.add : ∀ {d : Nat} {f g : Nat → Nat}, Pol d f → Pol d g → Pol d (fun t => f t ^^^ g t)
  | 0, _, _, h1, h2 => fun t ht => by show _ ^^^ _ = 0; rw [h1 t ht, h2 t ht]; rfl
  | _ + 1, _, _, ⟨c1, k1, hc1, hk1, hf1⟩, ⟨c2, k2, hc2, hk2, hf2⟩ => ⟨c1 ^^^ c2, _, xor8 hc1 hc2, hk1.add hk2, fun t ht => by
      show _ ^^^ _ = _
      rw [hf1 t ht, hf2 t ht, mul_xor, xor4]⟩
theorem Pol.scale : ∀ {d : Nat} {f : Nat → Nat} {a : Nat}, Pol d f → a < 256 → Pol d (fun t => mul (f t) a)
  | 0, _, a, h, _ => fun t ht => by show mul _ a = 0; rw [h t ht, zero_mul]
  | _ + 1, _, a, ⟨c, k, hc, hk, hf⟩, ha => ⟨mul c a, _, mul_lt hc, hk.scale ha, fun t ht => by
      show mul _ a = _
      rw [hf t ht, xor_mul, mul_assoc ht (hk.lt t ht) ha]⟩
theorem Pol.times {d : Nat} {f : Nat → Nat} {a : Nat} (h : Pol d f) (ha : a < 256) : Pol (d + 1) (fun t => mul (f t) (t ^^^ a)) := by
  have h1 : Pol (d + 1) (fun t => mul t (f t)) := ⟨0, f, by omega, h, fun t _ => by rw [Nat.zero_xor]⟩
  refine (h1.add (h.scale ha).up).congr fun t ht => ?_
  rw [mul_xor, mul_comm (h.lt t ht) ht]
theorem xor_cancel (a b c : Nat) : (a ^^^ b) ^^^ (b ^^^ c) = a ^^^ c := by
  rw [Nat.xor_assoc, ← Nat.xor_assoc b b c, Nat.xor_self, Nat.zero_xor]
theorem xor_five (c A B C : Nat) : c ^^^ A = (c ^^^ C) ^^^ ((A ^^^ B) ^^^ (B ^^^ C)) := by
  rw [xor_cancel, xor4, Nat.xor_comm C C, Nat.xor_self, Nat.xor_zero]
theorem Pol.factor : ∀ {d : Nat} {f : Nat → Nat}, Pol (d + 1) f → ∀ a, a < 256 → ∃ g, Pol d g ∧ ∀ t, t < 256 → f t = f a ^^^ mul (t ^^^ a) (g t)
  | 0, f, ⟨c, k, hc, hk, hf⟩, a, ha => ⟨_, Pol.zero 0, fun t ht => by rw [hf t ht, hf a ha, hk t ht, hk a ha, mul_zero, mul_zero, mul_zero, Nat.xor_zero, Nat.xor_zero]⟩
  | d + 1, f, ⟨c, k, hc, hk, hf⟩, a, ha => by
    obtain ⟨g, hg, he⟩ := hk.factor a ha
    have hga : Pol d (fun t => mul a (g t)) := (hg.scale ha).congr fun t ht => mul_comm ha (hg.lt t ht)
    refine ⟨_, hk.add hga.up, fun t ht => ?_⟩
    have hgt := hg.lt t ht
    have e1 := he t ht
    have hx := xor8 ht ha
    have e2 : mul (t ^^^ a) (mul a (g t)) = mul a (k t ^^^ k a) := by
      rw [e1, Nat.xor_comm (k a), Nat.xor_assoc, Nat.xor_self, Nat.xor_zero, ← mul_assoc hx ha hgt, mul_comm hx ha, mul_assoc ha hx hgt]
    show f t = f a ^^^ mul (t ^^^ a) (k t ^^^ mul a (g t))
    rw [hf t ht, hf a ha, mul_xor, e2, mul_xor, xor_mul, ← xor_five]
theorem Pol.none : ∀ {d : Nat} {f : Nat → Nat}, Pol d f → ∀ xs : List Nat, xs.length = d → Els xs → xs.Nodup → (∀ x ∈ xs, f x = 0) → ∀ t, t < 256 → f t = 0
  | 0, _, h, _, _, _, _, _ => h
  | d + 1, f, h, [], hl, _, _, _ => by simp at hl
  | d + 1, f, h, x :: xs, hl, hx, hn, h0 => by
    have hx1 : x < 256 := hx x (by simp)
    obtain ⟨g, hg, he⟩ := h.factor x hx1
    have hfx : f x = 0 := h0 x (by simp)
    rw [List.nodup_cons] at hn
    have hg0 := hg.none xs (by simpa using hl) (fun y hy => hx y (by simp [hy])) hn.2 (fun y hy => by
      have hy1 : y < 256 := hx y (by simp [hy])
      have h1 := he y hy1
      rw [h0 y (by simp [hy]), hfx, Nat.zero_xor] at h1
      rcases mul_eq_zero (xor8 hy1 hx1) (hg.lt y hy1) h1.symm with h2 | h2
      · exact absurd h2 (xor_ne (fun e => hn.1 (e ▸ hy)))
      · exact h2)
    intro t ht
    rw [he t ht, hg0 t ht, hfx, mul_zero]; rfl
theorem xor_eq {a b : Nat} (h : a ^^^ b = 0) : a = b := by
  by_cases e : a = b
  · exact e
  · exact absurd h (xor_ne e)
/-- two that agree at as many places as their degree asks agree everywhere -/
theorem Pol.one {d : Nat} {f g : Nat → Nat} (hf : Pol d f) (hg : Pol d g) (xs : List Nat) (hl : xs.length = d) (hx : Els xs) (hn : xs.Nodup) (h : ∀ x ∈ xs, f x = g x) (t : Nat) (ht : t < 256) : f t = g t :=
  xor_eq ((hf.add hg).none xs hl hx hn (fun x hx => by show f x ^^^ g x = 0; rw [h x hx, Nat.xor_self]) t ht)

theorem wt_pol {xs : List Nat} (hx : Els xs) (i : Nat) : ∀ k, Pol (if i < k then k else k + 1) (fun t => wt xs t i k)
  | 0 => by simp only [Nat.not_lt_zero, if_false]; exact Pol.const (c := 1) (by omega)
  | k + 1 => by
    have ih := wt_pol hx i k
    have hk := els_getD hx k
    have hi := els_getD hx i
    by_cases e : k = i
    · subst e
      rw [if_neg (by omega)] at ih
      rw [if_pos (by omega)]
      refine ih.congr fun t _ => ?_
      show wt xs t k (k + 1) = wt xs t k k
      rw [wt, if_pos rfl]
    · have h1 : Pol ((if i < k then k else k + 1) + 1) (fun t => wt xs t i (k + 1)) := by
        refine ((ih.times hk).scale (inv_lt (xor8 hi hk))).congr fun t ht => ?_
        show wt xs t i (k + 1) = _
        rw [wt, if_neg e, mul_assoc (wt_lt _ _ _ _) (xor8 ht hk) (inv_lt (xor8 hi hk))]
      by_cases h2 : i < k
      · rw [if_pos h2] at h1
        rw [if_pos (by omega)]; exact h1
      · rw [if_neg h2] at h1
        rw [if_neg (by omega)]; exact h1
theorem weight_pol {xs : List Nat} (hx : Els xs) {i : Nat} (hi : i < xs.length) : Pol xs.length (fun t => weight xs t i) := by
  have := wt_pol hx i xs.length
  rw [if_pos hi] at this
  exact this
theorem sum_pol {n : Nat} {c : Nat → Nat → Nat} {y : Nat → Nat} (hy : ∀ i, y i < 256) : ∀ k, (∀ i, i < k → Pol n (fun t => c t i)) → Pol n (fun t => sumTo (c t) y k)
  | 0, _ => Pol.zero n
  | k + 1, h => (sum_pol hy k (fun i hi => h i (by omega))).add ((h k (by omega)).scale (hy k))
theorem line_pol {xs ys : List Nat} (hx : Els xs) (hy : Els ys) : Pol xs.length (fun t => line xs ys t) :=
  sum_pol (c := fun t => weight xs t) (els_getD hy) _ (fun _ hi => weight_pol hx hi)
theorem nodup_getD {xs : List Nat} (hn : xs.Nodup) {i j : Nat} (hi : i < xs.length) (hj : j < xs.length) (h : j ≠ i) : xs.getD j 0 ≠ xs.getD i 0 := by
  rw [getD_at hi, getD_at hj]
  intro e
  exact h ((List.getElem_inj hn).1 e)
/-- what a polynomial tells at as many places as its degree asks tells it everywhere -/
theorem line_all {xs ys : List Nat} {f : Nat → Nat} (hf : Pol xs.length f) (hx : Els xs) (hn : xs.Nodup) (hl : ys.length = xs.length) (h : ∀ i, i < xs.length → ys.getD i 0 = f (xs.getD i 0)) (t : Nat) (ht : t < 256) : line xs ys t = f t := by
  have hy : Els ys := fun y hy => by
    obtain ⟨i, hi, rfl⟩ := List.getElem_of_mem hy
    have h1 := h i (by omega)
    rw [getD_at hi] at h1
    rw [h1]; exact hf.lt _ (els_getD hx i)
  refine (line_pol hx hy).one hf xs rfl hx hn (fun x hxm => ?_) t ht
  obtain ⟨i, hi, rfl⟩ := List.getElem_of_mem hxm
  have h1 := line_at hx hy i hi hl (fun j hj hji => nodup_getD hn hi hj hji)
  rw [h i hi, getD_at hi] at h1
  exact h1
/-- a column of pieces -/
def col (ps : List (List Nat)) (j : Nat) : List Nat := ps.map fun p => p.getD j 0
theorem col_len (ps : List (List Nat)) (j : Nat) : (col ps j).length = ps.length := by simp [col]
theorem col_at (ps : List (List Nat)) (j i : Nat) : (col ps j).getD i 0 = (ps.getD i []).getD j 0 := by
  by_cases h : i < ps.length
  · simp [col, List.getD, h]
  · simp [col, List.getD, List.getElem?_eq_none (Nat.le_of_not_lt h)]
theorem mix_line (xs : List Nat) (ps : List (List Nat)) (t j : Nat) (h : xs.length = ps.length) : mixAt (weight xs t) ps j ps.length = line xs (col ps j) t := by
  unfold mixAt line
  rw [h]
  congr 1
  funext i
  rw [col_at]
theorem mixed_at (c : Nat → Nat) (ps : List (List Nat)) (L j : Nat) (hj : j < L) : (mixed c ps L).getD j 0 = mixAt c ps j ps.length := by
  simp [mixed, List.getD, hj]
theorem range_nodup (n : Nat) : (List.range n).Nodup := List.nodup_range
theorem range_getD {n i : Nat} (h : i < n) : (List.range n).getD i 0 = i := by simp [List.getD, h]
theorem col_els {ps : List (List Nat)} (h : ∀ p ∈ ps, Els p) (j : Nat) : Els (col ps j) := fun x hx => by
  obtain ⟨p, hp, rfl⟩ := List.mem_map.1 hx
  exact els_getD (h p hp) j
/-- the byte at place j of the piece x, of a text spread -/
def spot (s : List Nat) (n j x : Nat) : Nat := line (List.range n) (col (firsts s n) j) x
theorem spot_pol {s : List Nat} (hs : Els s) {n : Nat} (hn : n ≤ 256) (j : Nat) : Pol n (spot s n j) := by
  have := line_pol (range_els hn) (col_els (firsts_els hs n) j)
  rw [List.length_range] at this
  exact this
theorem firsts_getD (s : List Nat) {n i : Nat} (h : i < n) : (firsts s n).getD i [] = cutL s n i := by simp [firsts, List.getD, h]
theorem spot_first {s : List Nat} (hs : Els s) {n : Nat} (hn : n ≤ 256) (j : Nat) {x : Nat} (hx : x < n) : spot s n j x = (cutL s n x).getD j 0 := by
  have h := line_at (range_els hn) (col_els (firsts_els hs n) j) x (by simpa using hx) (by simp [col_len, firsts_len]) (fun k hk hkx => by
    have hk' : k < n := by simpa using hk
    rw [range_getD hk', range_getD hx]; exact hkx)
  rw [range_getD hx, col_at, firsts_getD s hx] at h
  exact h
theorem spread_getD_first (s : List Nat) {n x : Nat} (m : Nat) (h : x < n) : (spreadL s n m).getD x [] = cutL s n x := by
  have hl := firsts_len s n
  unfold spreadL
  rw [List.getD, List.getElem?_append_left (by omega)]
  exact firsts_getD s h
theorem spread_getD_rest (s : List Nat) {n m x : Nat} (h : n ≤ x) (h2 : x < n + m) : (spreadL s n m).getD x [] = rest1 (firsts s n) n (plen n s.length) (x - n) := by
  have hl := firsts_len s n
  unfold spreadL
  rw [List.getD, List.getElem?_append_right (by omega), hl]
  have : x - n < m := by omega
  simp [rests, this]
theorem spread_at {s : List Nat} (hs : Els s) {n m x : Nat} (hn : n ≤ 256) (hx : x < n + m) {j : Nat} (hj : j < plen n s.length) : ((spreadL s n m).getD x []).getD j 0 = spot s n j x := by
  by_cases h : x < n
  · rw [spread_getD_first s m h, spot_first hs hn j h]
  · rw [spread_getD_rest s (by omega) hx]
    unfold rest1
    rw [mixed_at _ _ _ _ hj, mix_line _ _ _ _ (by rw [List.length_range, firsts_len]), show n + (x - n) = x by omega]
    rfl
theorem spread_len_at (s : List Nat) {n m x : Nat} (hx : x < n + m) : ((spreadL s n m).getD x []).length = plen n s.length := by
  by_cases h : x < n
  · rw [spread_getD_first s m h, cutL_len h]
  · rw [spread_getD_rest s (by omega) hx]; exact mixed_len _ _ _
theorem spread_els {s : List Nat} (hs : Els s) {n m x : Nat} (hx : x < n + m) : Els ((spreadL s n m).getD x []) := by
  by_cases h : x < n
  · rw [spread_getD_first s m h]; exact cutL_els hs _ _
  · rw [spread_getD_rest s (by omega) hx]; exact mixed_els _ _ _ (weight_lt _ _)
/-- as many pieces as are needed, whichever, mixed: the first pieces -/
theorem mixed_back {s : List Nat} (hs : Els s) {n m : Nat} (h1 : n + m ≤ 256) {xs : List Nat} {ps : List (List Nat)} (hl : xs.length = n) (hp : ps.length = n) (hn : xs.Nodup) (hx : ∀ x ∈ xs, x < n + m) (he : ∀ i, i < n → ps.getD i [] = (spreadL s n m).getD (xs.getD i 0) []) {t : Nat} (ht : t < n) : mixed (weight xs t) ps (plen n s.length) = cutL s n t := by
  have hxe : Els xs := fun x h => by have := hx x h; omega
  apply List.ext_getElem
  · rw [mixed_len, cutL_len ht]
  · intro j hj1 hj2
    have hj : j < plen n s.length := by rwa [mixed_len] at hj1
    have h2 := mixed_at (weight xs t) ps _ j hj
    have h3 : line xs (col ps j) t = spot s n j t := by
      refine line_all (f := spot s n j) (by rw [hl]; exact spot_pol hs (by omega) j) hxe hn (by rw [col_len, hp, hl]) (fun i hi => ?_) t (by omega)
      have hxi : xs.getD i 0 < n + m := by rw [getD_at hi]; exact hx _ (List.getElem_mem hi)
      rw [col_at, he i (by omega), spread_at hs (by omega) hxi hj]
    rw [mix_line _ _ _ _ (by rw [hl, hp]), h3, spot_first hs (by omega) j ht] at h2
    rw [List.getD, List.getElem?_eq_getElem hj1, List.getD, List.getElem?_eq_getElem hj2] at h2
    simpa using h2
theorem flat_cut (s : List Nat) (n : Nat) (h : 0 < n) : (List.range n).flatMap (cutL s n) = pad s n := by
  have hp := pad_len (s := s) h
  have key : ∀ k, k ≤ n → (List.range k).flatMap (cutL s n) = (pad s n).take (k * plen n s.length) := by
    intro k
    induction k with
    | zero => intro _; simp
    | succ k ih =>
      intro hk
      rw [List.range_succ, List.flatMap_append, ih (by omega)]
      simp only [List.flatMap_cons, List.flatMap_nil, List.append_nil]
      rw [Nat.add_mul, Nat.one_mul, List.take_add]
      rfl
  rw [key n (Nat.le_refl _), ← hp, List.take_length]
theorem pad_take (s : List Nat) (n : Nat) : (pad s n).take s.length = s := by simp [pad]
end Go.Proofs.Ytkanhjafchiikaa.Gf

/- What the program's mix of numbers answers. -/
namespace Go.Proofs.Ytkanhjafchiikaa.Gf
open Go.RowKit Go.Proofs.Ytkanhjafchiikaa.Mem

end Go.Proofs.Ytkanhjafchiikaa.Gf

/- What the program's Interp answers. -/
namespace Go.Proofs.Ytkanhjafchiikaa.Gf
open Go.RowKit Go.Proofs.Ytkanhjafchiikaa.Mem

theorem infoI64s : (Try.prog.info? 58).map (fun i => (i.zero, i.size, i.bytes)) = some (some (.slice none 0 0), 1, 24) := by kernel_rfl
/-- Of n lists of one number the first k, in the blocks from B on. -/
def boxes (B n k : Nat) : List Value := (List.range n).map fun j => if j < k then .slice (some ⟨B + j, 0, none⟩) 1 1 else .slice none 0 0
theorem boxes_start (B n : Nat) : boxes B n 0 = List.replicate n (.slice none 0 0) := by
  apply List.ext_getElem
  · simp [boxes]
  · intro j h1 h2; simp [boxes]
theorem boxes_at (B n k : Nat) (h : k < n) : (boxes B n k)[k]? = some (.slice none 0 0) := by simp [boxes, h]
theorem boxes_in (B n k j : Nat) (hj : j < k) (hk : k ≤ n) : (boxes B n k)[j]? = some (.slice (some ⟨B + j, 0, none⟩) 1 1) := by
  have : j < n := by omega
  simp [boxes, this, hj]
theorem boxes_set (B n k : Nat) : (boxes B n k).set k (.slice (some ⟨B + k, 0, none⟩) 1 1) = boxes B n (k + 1) := by
  apply List.ext_getElem
  · simp [boxes]
  · intro j h1 h2
    by_cases e : k = j
    · subst e; simp [boxes]
    · rw [List.getElem_set_ne e]
      by_cases e2 : j < k
      · have : j < k + 1 := by omega
        simp [boxes, e2, this]
      · have : ¬ j < k + 1 := by omega
        simp [boxes, e2, this]
/-- The lists of one number each. -/
def ones (ys : List Nat) : List (List Nat) := ys.map fun y => [y]
theorem mixed_ones (c : Nat → Nat) (ys : List Nat) : mixed c (ones ys) 1 = [sumTo c (fun i => ys.getD i 0) ys.length] := by
  have : ∀ k, mixAt c (ones ys) 0 k = sumTo c (fun i => ys.getD i 0) k := by
    intro k
    unfold mixAt
    congr 1
    funext i
    by_cases h : i < ys.length <;> simp [ones, List.getD, h]
  have e : mixed c (ones ys) 1 = [mixAt c (ones ys) 0 (ones ys).length] := rfl
  rw [e, this]
  simp [ones]

theorem els_ones {ys : List Nat} (h : Els ys) : ∀ p ∈ ones ys, Els p := fun p hp x hx => by
  obtain ⟨y, hy, rfl⟩ := List.mem_map.1 hp
  simp at hx; subst hx; exact h _ hy
theorem len_ones (ys : List Nat) : ∀ p ∈ ones ys, p.length = 1 := fun p hp => by
  obtain ⟨y, hy, rfl⟩ := List.mem_map.1 hp; rfl
theorem lists_ones {W : World} {g B : Nat} {ys : List Nat} {T : TypeId} (hr : HasRow W g (boxes B ys.length ys.length) T) (hc : ∀ j (h : j < ys.length), W.cell? ⟨B + j, 0, none⟩ = some (.int .i64 (ys[j] : Nat))) (cap : Nat) : Lists .i64 W (.slice (some ⟨g, 0, none⟩) ys.length cap) (ones ys) := by
  have hl : (ones ys).length = ys.length := by simp [ones]
  refine ⟨_, cap, by rw [hl], fun j hj => ?_⟩
  have hj2 : j < ys.length := by omega
  refine ⟨g, 0, .slice (some ⟨B + j, 0, none⟩) 1 1, rfl, ?_, ?_⟩
  · rw [Nat.zero_add, Mem.cell_of_row hr, boxes_in _ _ _ _ hj2 (Nat.le_refl _)]
  · have e : (ones ys)[j] = [ys[j]] := by simp [ones]
    rw [e]
    refine ⟨_, 1, rfl, fun i hi => ⟨_, 0, rfl, ?_⟩⟩
    obtain rfl : i = 0 := by simpa using hi
    exact hc j hj2

theorem countsAt_any (vx : Value) (xs : List Nat) (t : Nat) (w : World) (h : NumsK .i64 w vx xs) :
    Calls Try.prog 33 #[vx, .int .i64 t] w fun e w' => ∃ bx bt, e = .returned (.func (.func 58) #[] #[.pointer (some ⟨bx, 0, none⟩), .pointer (some ⟨bt, 0, none⟩)]) ∧ Clos w' bx bt xs t ∧ Below w.heap.size w w' := by
  have hmf : ∀ W x y, (Instr.makeFunc (Fn.func 58) #[] #[x, y]).run Try.prog W = .ok (.func (.func 58) #[] #[x, y]) W := fun _ _ _ => rfl
  have HB : Hid (∀ o o', Below w.heap.size w ((w.alloc o).alloc o')) := fun o o' => balloc (balloc (Below.refl _ _) o) o'
  have HN : Hid (NumsK .i64 w vx xs) := h
  obtain ⟨a, cap, rfl⟩ := h.shape
  clear h
  go_enter Try.func33, Try.ntmps33
  go_wp2
  go_ret
  exact ⟨_, _, rfl, ⟨_, by simp, by simp, HN.out.below (HB.out _ _)⟩, HB.out _ _⟩

end Go.Proofs.Ytkanhjafchiikaa.Gf

/- A frame as eight cells, and when it is right. -/
namespace Go.Proofs.Ytkanhjafchiikaa.Frm
open Go.RowKit Go.Proofs.Ytkanhjafchiikaa.Gf

/-- A frame: its six numbers, its shard's Index and its Data. -/
structure Fr where
  o : Int
  g : Int
  gs : Int
  n : Int
  m : Int
  s : Int
  x : Int
  t : ByteArray
def Fr.val (f : Fr) : Value := .agg #[.int .i64 f.o, .int .i64 f.g, .int .i64 f.gs, .int .i64 f.n, .int .i64 f.m, .int .i64 f.s, .int .i64 f.x, .string f.t]
def Fr.right (f : Fr) : Bool := isB f.o 1 1000000 && isB f.gs 1 9 && isB f.g 0 (f.gs - 1) && fineB f.n f.m f.s && isB f.x 0 (f.n + f.m - 1) && decide (f.t.size = plen f.n.toNat f.s.toNat)
theorem isB_iff {n l h : Int} : isB n l h = true ↔ l ≤ n ∧ n ≤ h := by simp [isB]
theorem isB_no {n l h : Int} : isB n l h = false ↔ ¬ (l ≤ n ∧ n ≤ h) := by simp [isB]
/-- where the first fault lies -/
theorem Fr.cases (f : Fr) : (isB f.o 1 1000000 = false ∧ f.right = false) ∨ (isB f.o 1 1000000 = true ∧ isB f.gs 1 9 = false ∧ f.right = false) ∨ (isB f.o 1 1000000 = true ∧ isB f.gs 1 9 = true ∧ isB f.g 0 (f.gs - 1) = false ∧ f.right = false) ∨ (isB f.o 1 1000000 = true ∧ isB f.gs 1 9 = true ∧ isB f.g 0 (f.gs - 1) = true ∧ fineB f.n f.m f.s = false ∧ f.right = false) ∨ (isB f.o 1 1000000 = true ∧ isB f.gs 1 9 = true ∧ isB f.g 0 (f.gs - 1) = true ∧ fineB f.n f.m f.s = true ∧ isB f.x 0 (f.n + f.m - 1) = false ∧ f.right = false) ∨ (isB f.o 1 1000000 = true ∧ isB f.gs 1 9 = true ∧ isB f.g 0 (f.gs - 1) = true ∧ fineB f.n f.m f.s = true ∧ isB f.x 0 (f.n + f.m - 1) = true ∧ f.right = decide (f.t.size = plen f.n.toNat f.s.toNat)) := by
  unfold Fr.right
  cases isB f.o 1 1000000 <;> cases isB f.gs 1 9 <;> cases isB f.g 0 (f.gs - 1) <;> cases fineB f.n f.m f.s <;> cases isB f.x 0 (f.n + f.m - 1) <;> simp
end Go.Proofs.Ytkanhjafchiikaa.Frm
