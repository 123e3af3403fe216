/- Laws that the proof rests on, put together: Spread as a function of lists of numbers and of texts. Polynomials over the elements: one of degree less than n is told by any n of its places. What the program's mix of numbers answers. What the program's Interp answers. A frame as eight cells, and when it is right. What the laws' own functions on frames answer. -/
import Derived.Test.YtkanhjafchiikaaImplCount
import Derived.Test.YtkanhjafchiikaaTextsD
import Derived.Test.YtkanhjafchiikaaTextsB
import Derived.Deep.RegionHeld3
import Derived.Deep.QuietTactic
import Derived.BigQuiet
/- Spread as a function of lists of numbers and of texts. -/
namespace Go.Proofs.Ytkanhjafchiikaa.Gf
open Go.RowKit

def toB (l : List Nat) : ByteArray := ⟨(l.map UInt8.ofNat).toArray⟩
def nb (s : ByteArray) : List Nat := s.data.toList.map UInt8.toNat
theorem nb_len (s : ByteArray) : (nb s).length = s.size := by simp [nb]
theorem toB_size (l : List Nat) : (toB l).size = l.length := by unfold toB; show (Array.size _) = _; simp
theorem nb_els (s : ByteArray) : Els (nb s) := fun x hx => by
  obtain ⟨b, _, rfl⟩ := List.mem_map.1 hx; exact b.toNat_lt
theorem toB_nb (s : ByteArray) : toB (nb s) = s := by
  apply ByteArray.ext
  simp [toB, nb, Function.comp_def]
theorem nb_toB {l : List Nat} (h : Els l) : nb (toB l) = l := by
  unfold nb toB
  simp only [List.map_map]
  have : ∀ x ∈ l, (UInt8.toNat ∘ UInt8.ofNat) x = x := fun x hx => by
    have := h x hx
    simp; omega
  rw [List.map_congr_left this]; simp
theorem nb_at (s : ByteArray) (k : Nat) (h : k < s.size) : (nb s)[k]'(by rw [nb_len]; exact h) = (s[k]).toNat := by simp [nb]; rfl

def plen (need size : Nat) : Nat := (size + need - 1) / need
theorem plen_ge {need size : Nat} (h : 0 < need) : size ≤ need * plen need size := by
  unfold plen
  have := Nat.div_add_mod (size + need - 1) need
  have := Nat.mod_lt (size + need - 1) h
  omega
theorem plen_le (need size : Nat) : need * plen need size ≤ size + need - 1 := Nat.mul_div_le _ _
theorem plen_pos {need size : Nat} (h : 0 < need) (h2 : 0 < size) : 0 < plen need size := by
  unfold plen; exact Nat.div_pos (by omega) h
theorem plen_small {need size : Nat} (h : 0 < need) : plen need size ≤ size + need := by
  unfold plen; exact Nat.le_trans (Nat.div_le_self _ _) (by omega)
def pad (s : List Nat) (need : Nat) : List Nat := s ++ List.replicate (need * plen need s.length - s.length) 0
theorem pad_len {s : List Nat} {need : Nat} (h : 0 < need) : (pad s need).length = need * plen need s.length := by
  have := plen_ge (size := s.length) h
  simp [pad]; omega
def cutL (s : List Nat) (need i : Nat) : List Nat := ((pad s need).drop (i * plen need s.length)).take (plen need s.length)
theorem cut_room {need L i : Nat} (h : i < need) : i * L + L ≤ need * L := by
  have : (i + 1) * L ≤ need * L := Nat.mul_le_mul (by omega) (Nat.le_refl _)
  rw [Nat.add_mul] at this; omega
theorem cutL_len {s : List Nat} {need i : Nat} (h : i < need) : (cutL s need i).length = plen need s.length := by
  have := cut_room (L := plen need s.length) h
  have := pad_len (s := s) (need := need) (by omega)
  simp [cutL]; omega
theorem pad_els {s : List Nat} (h : Els s) (need : Nat) : Els (pad s need) := fun x hx => by
  rcases List.mem_append.1 hx with h1 | h1
  · exact h x h1
  · have := (List.mem_replicate.1 h1).2; omega
theorem cutL_els {s : List Nat} (h : Els s) (need i : Nat) : Els (cutL s need i) := fun x hx => pad_els h need x (List.mem_of_mem_drop (List.mem_of_mem_take hx))
def firsts (s : List Nat) (need : Nat) : List (List Nat) := (List.range need).map (cutL s need)
/-- the further piece of the number need + i -/
def rest1 (ps : List (List Nat)) (need L i : Nat) : List Nat := mixed (weight (List.range need) (need + i)) ps L
def rests (ps : List (List Nat)) (need L more : Nat) : List (List Nat) := (List.range more).map (rest1 ps need L)
def spreadL (s : List Nat) (need more : Nat) : List (List Nat) := firsts s need ++ rests (firsts s need) need (plen need s.length) more
theorem firsts_len (s : List Nat) (need : Nat) : (firsts s need).length = need := by simp [firsts]
theorem spreadL_len (s : List Nat) (need more : Nat) : (spreadL s need more).length = need + more := by simp [spreadL, firsts, rests]
theorem mixed_len (c : Nat → Nat) (ps : List (List Nat)) (L : Nat) : (mixed c ps L).length = L := by simp [mixed]
theorem mixed_els (c : Nat → Nat) (ps : List (List Nat)) (L : Nat) (h : ∀ i, c i < 256) : Els (mixed c ps L) := fun x hx => by
  obtain ⟨j, _, rfl⟩ := List.mem_map.1 hx; exact mixAt_lt _ _ _ _ h
theorem firsts_all (s : List Nat) (need : Nat) : ∀ p ∈ firsts s need, p.length = plen need s.length := fun p hp => by
  obtain ⟨i, hi, rfl⟩ := List.mem_map.1 hp; exact cutL_len (by simpa using hi)
theorem firsts_els {s : List Nat} (h : Els s) (need : Nat) : ∀ p ∈ firsts s need, Els p := fun p hp => by
  obtain ⟨i, hi, rfl⟩ := List.mem_map.1 hp; exact cutL_els h _ _
theorem firsts_succ (s : List Nat) (need k : Nat) : (List.range (k + 1)).map (cutL s need) = (List.range k).map (cutL s need) ++ [cutL s need k] := by simp [List.range_succ]
theorem rests_succ (ps : List (List Nat)) (need L k : Nat) : rests ps need L (k + 1) = rests ps need L k ++ [rest1 ps need L k] := by simp [rests, List.range_succ]
theorem range_els {n : Nat} (h : n ≤ 256) : Els (List.range n) := fun x hx => by
  have h2 : x < n := by simpa using hx
  omega
/-- may a group be so? -/
def fineB (need more size : Int) : Bool := isB need 1 6 && isB more 0 4 && isB size 1 100
def spreadO (t : ByteArray) (need more : Int) : List ByteArray := if fineB need more t.size then (spreadL (nb t) need.toNat more.toNat).map toB else []
theorem fine_parts {need more size : Int} (h : fineB need more size = true) : ∃ n m s : Nat, need = n ∧ more = m ∧ size = s ∧ 1 ≤ n ∧ n ≤ 6 ∧ m ≤ 4 ∧ 1 ≤ s ∧ s ≤ 100 := by
  simp only [fineB, isB, Bool.and_eq_true, decide_eq_true_eq] at h
  exact ⟨need.toNat, more.toNat, size.toNat, by omega, by omega, by omega, by omega, by omega, by omega, by omega, by omega⟩
end Go.Proofs.Ytkanhjafchiikaa.Gf

/- Polynomials over the elements: one of degree less than n is told by any n of its places. -/
namespace Go.Proofs.Ytkanhjafchiikaa.Gf
open Go.RowKit

/-- f is, over the elements, a polynomial of degree less than d -/
def Pol : Nat → (Nat → Nat) → Prop
  | 0, f => ∀ t, t < 256 → f t = 0
  | d + 1, f => ∃ c g, c < 256 ∧ Pol d g ∧ ∀ t, t < 256 → f t = c ^^^ mul t (g t)

theorem Pol.lt : ∀ {d : Nat} {f : Nat → Nat}, Pol d f → ∀ t, t < 256 → f t < 256
  | 0, _, h, t, ht => by rw [h t ht]; omega
  | _ + 1, _, ⟨_, _, hc, _, hf⟩, t, ht => by rw [hf t ht]; exact xor8 hc (mul_lt ht)
theorem Pol.congr : ∀ {d : Nat} {f g : Nat → Nat}, Pol d f → (∀ t, t < 256 → g t = f t) → Pol d g
  | 0, _, _, h, e => fun t ht => (e t ht).trans (h t ht)
  | _ + 1, _, _, ⟨c, k, hc, hk, hf⟩, e => ⟨c, k, hc, hk, fun t ht => (e t ht).trans (hf t ht)⟩
theorem Pol.zero : ∀ d : Nat, Pol d (fun _ => 0)
  | 0 => fun _ _ => rfl
  | d + 1 => ⟨0, _, by omega, Pol.zero d, fun t _ => by rw [mul_zero]; rfl⟩
theorem Pol.up : ∀ {d : Nat} {f : Nat → Nat}, Pol d f → Pol (d + 1) f
  | 0, _, h => ⟨0, _, by omega, Pol.zero 0, fun t ht => by rw [h t ht, mul_zero]; rfl⟩
  | _ + 1, _, ⟨c, g, hc, hg, hf⟩ => ⟨c, g, hc, hg.up, hf⟩
theorem Pol.const {d c : Nat} (hc : c < 256) : Pol (d + 1) (fun _ => c) := ⟨c, _, hc, Pol.zero d, fun t _ => by rw [mul_zero, Nat.xor_zero]⟩
theorem Pol.add : ∀ {d : Nat} {f g : Nat → Nat}, Pol d f → Pol d g → Pol d (fun t => f t ^^^ g t)
  | 0, _, _, h1, h2 => fun t ht => by show _ ^^^ _ = 0; rw [h1 t ht, h2 t ht]; rfl
  | _ + 1, _, _, ⟨c1, k1, hc1, hk1, hf1⟩, ⟨c2, k2, hc2, hk2, hf2⟩ => ⟨c1 ^^^ c2, _, xor8 hc1 hc2, hk1.add hk2, fun t ht => by
      show _ ^^^ _ = _
      rw [hf1 t ht, hf2 t ht, mul_xor, xor4]⟩
theorem Pol.scale : ∀ {d : Nat} {f : Nat → Nat} {a : Nat}, Pol d f → a < 256 → Pol d (fun t => mul (f t) a)
  | 0, _, a, h, _ => fun t ht => by show mul _ a = 0; rw [h t ht, zero_mul]
  | _ + 1, _, a, ⟨c, k, hc, hk, hf⟩, ha => ⟨mul c a, _, mul_lt hc, hk.scale ha, fun t ht => by
      show mul _ a = _
      rw [hf t ht, xor_mul, mul_assoc ht (hk.lt t ht) ha]⟩
theorem Pol.times {d : Nat} {f : Nat → Nat} {a : Nat} (h : Pol d f) (ha : a < 256) : Pol (d + 1) (fun t => mul (f t) (t ^^^ a)) := by
  have h1 : Pol (d + 1) (fun t => mul t (f t)) := ⟨0, f, by omega, h, fun t _ => by rw [Nat.zero_xor]⟩
  refine (h1.add (h.scale ha).up).congr fun t ht => ?_
  rw [mul_xor, mul_comm (h.lt t ht) ht]
theorem xor_cancel (a b c : Nat) : (a ^^^ b) ^^^ (b ^^^ c) = a ^^^ c := by
  rw [Nat.xor_assoc, ← Nat.xor_assoc b b c, Nat.xor_self, Nat.zero_xor]
theorem xor_five (c A B C : Nat) : c ^^^ A = (c ^^^ C) ^^^ ((A ^^^ B) ^^^ (B ^^^ C)) := by
  rw [xor_cancel, xor4, Nat.xor_comm C C, Nat.xor_self, Nat.xor_zero]
theorem Pol.factor : ∀ {d : Nat} {f : Nat → Nat}, Pol (d + 1) f → ∀ a, a < 256 → ∃ g, Pol d g ∧ ∀ t, t < 256 → f t = f a ^^^ mul (t ^^^ a) (g t)
  | 0, f, ⟨c, k, hc, hk, hf⟩, a, ha => ⟨_, Pol.zero 0, fun t ht => by rw [hf t ht, hf a ha, hk t ht, hk a ha, mul_zero, mul_zero, mul_zero, Nat.xor_zero, Nat.xor_zero]⟩
  | d + 1, f, ⟨c, k, hc, hk, hf⟩, a, ha => by
    obtain ⟨g, hg, he⟩ := hk.factor a ha
    have hga : Pol d (fun t => mul a (g t)) := (hg.scale ha).congr fun t ht => mul_comm ha (hg.lt t ht)
    refine ⟨_, hk.add hga.up, fun t ht => ?_⟩
    have hgt := hg.lt t ht
    have e1 := he t ht
    have hx := xor8 ht ha
    have e2 : mul (t ^^^ a) (mul a (g t)) = mul a (k t ^^^ k a) := by
      rw [e1, Nat.xor_comm (k a), Nat.xor_assoc, Nat.xor_self, Nat.xor_zero, ← mul_assoc hx ha hgt, mul_comm hx ha, mul_assoc ha hx hgt]
    show f t = f a ^^^ mul (t ^^^ a) (k t ^^^ mul a (g t))
    rw [hf t ht, hf a ha, mul_xor, e2, mul_xor, xor_mul, ← xor_five]
theorem Pol.none : ∀ {d : Nat} {f : Nat → Nat}, Pol d f → ∀ xs : List Nat, xs.length = d → Els xs → xs.Nodup → (∀ x ∈ xs, f x = 0) → ∀ t, t < 256 → f t = 0
  | 0, _, h, _, _, _, _, _ => h
  | d + 1, f, h, [], hl, _, _, _ => by simp at hl
  | d + 1, f, h, x :: xs, hl, hx, hn, h0 => by
    have hx1 : x < 256 := hx x (by simp)
    obtain ⟨g, hg, he⟩ := h.factor x hx1
    have hfx : f x = 0 := h0 x (by simp)
    rw [List.nodup_cons] at hn
    have hg0 := hg.none xs (by simpa using hl) (fun y hy => hx y (by simp [hy])) hn.2 (fun y hy => by
      have hy1 : y < 256 := hx y (by simp [hy])
      have h1 := he y hy1
      rw [h0 y (by simp [hy]), hfx, Nat.zero_xor] at h1
      rcases mul_eq_zero (xor8 hy1 hx1) (hg.lt y hy1) h1.symm with h2 | h2
      · exact absurd h2 (xor_ne (fun e => hn.1 (e ▸ hy)))
      · exact h2)
    intro t ht
    rw [he t ht, hg0 t ht, hfx, mul_zero]; rfl
theorem xor_eq {a b : Nat} (h : a ^^^ b = 0) : a = b := by
  by_cases e : a = b
  · exact e
  · exact absurd h (xor_ne e)
/-- two that agree at as many places as their degree asks agree everywhere -/
theorem Pol.one {d : Nat} {f g : Nat → Nat} (hf : Pol d f) (hg : Pol d g) (xs : List Nat) (hl : xs.length = d) (hx : Els xs) (hn : xs.Nodup) (h : ∀ x ∈ xs, f x = g x) (t : Nat) (ht : t < 256) : f t = g t :=
  xor_eq ((hf.add hg).none xs hl hx hn (fun x hx => by show f x ^^^ g x = 0; rw [h x hx, Nat.xor_self]) t ht)

theorem wt_pol {xs : List Nat} (hx : Els xs) (i : Nat) : ∀ k, Pol (if i < k then k else k + 1) (fun t => wt xs t i k)
  | 0 => by simp only [Nat.not_lt_zero, if_false]; exact Pol.const (c := 1) (by omega)
  | k + 1 => by
    have ih := wt_pol hx i k
    have hk := els_getD hx k
    have hi := els_getD hx i
    by_cases e : k = i
    · subst e
      rw [if_neg (by omega)] at ih
      rw [if_pos (by omega)]
      refine ih.congr fun t _ => ?_
      show wt xs t k (k + 1) = wt xs t k k
      rw [wt, if_pos rfl]
    · have h1 : Pol ((if i < k then k else k + 1) + 1) (fun t => wt xs t i (k + 1)) := by
        refine ((ih.times hk).scale (inv_lt (xor8 hi hk))).congr fun t ht => ?_
        show wt xs t i (k + 1) = _
        rw [wt, if_neg e, mul_assoc (wt_lt _ _ _ _) (xor8 ht hk) (inv_lt (xor8 hi hk))]
      by_cases h2 : i < k
      · rw [if_pos h2] at h1
        rw [if_pos (by omega)]; exact h1
      · rw [if_neg h2] at h1
        rw [if_neg (by omega)]; exact h1
theorem weight_pol {xs : List Nat} (hx : Els xs) {i : Nat} (hi : i < xs.length) : Pol xs.length (fun t => weight xs t i) := by
  have := wt_pol hx i xs.length
  rw [if_pos hi] at this
  exact this
theorem sum_pol {n : Nat} {c : Nat → Nat → Nat} {y : Nat → Nat} (hy : ∀ i, y i < 256) : ∀ k, (∀ i, i < k → Pol n (fun t => c t i)) → Pol n (fun t => sumTo (c t) y k)
  | 0, _ => Pol.zero n
  | k + 1, h => (sum_pol hy k (fun i hi => h i (by omega))).add ((h k (by omega)).scale (hy k))
theorem line_pol {xs ys : List Nat} (hx : Els xs) (hy : Els ys) : Pol xs.length (fun t => line xs ys t) :=
  sum_pol (c := fun t => weight xs t) (els_getD hy) _ (fun _ hi => weight_pol hx hi)
theorem nodup_getD {xs : List Nat} (hn : xs.Nodup) {i j : Nat} (hi : i < xs.length) (hj : j < xs.length) (h : j ≠ i) : xs.getD j 0 ≠ xs.getD i 0 := by
  rw [getD_at hi, getD_at hj]
  intro e
  exact h ((List.getElem_inj hn).1 e)
/-- what a polynomial tells at as many places as its degree asks tells it everywhere -/
theorem line_all {xs ys : List Nat} {f : Nat → Nat} (hf : Pol xs.length f) (hx : Els xs) (hn : xs.Nodup) (hl : ys.length = xs.length) (h : ∀ i, i < xs.length → ys.getD i 0 = f (xs.getD i 0)) (t : Nat) (ht : t < 256) : line xs ys t = f t := by
  have hy : Els ys := fun y hy => by
    obtain ⟨i, hi, rfl⟩ := List.getElem_of_mem hy
    have h1 := h i (by omega)
    rw [getD_at hi] at h1
    rw [h1]; exact hf.lt _ (els_getD hx i)
  refine (line_pol hx hy).one hf xs rfl hx hn (fun x hxm => ?_) t ht
  obtain ⟨i, hi, rfl⟩ := List.getElem_of_mem hxm
  have h1 := line_at hx hy i hi hl (fun j hj hji => nodup_getD hn hi hj hji)
  rw [h i hi, getD_at hi] at h1
  exact h1
/-- a column of pieces -/
def col (ps : List (List Nat)) (j : Nat) : List Nat := ps.map fun p => p.getD j 0
theorem col_len (ps : List (List Nat)) (j : Nat) : (col ps j).length = ps.length := by simp [col]
theorem col_at (ps : List (List Nat)) (j i : Nat) : (col ps j).getD i 0 = (ps.getD i []).getD j 0 := by
  by_cases h : i < ps.length
  · simp [col, List.getD, h]
  · simp [col, List.getD, List.getElem?_eq_none (Nat.le_of_not_lt h)]
theorem mix_line (xs : List Nat) (ps : List (List Nat)) (t j : Nat) (h : xs.length = ps.length) : mixAt (weight xs t) ps j ps.length = line xs (col ps j) t := by
  unfold mixAt line
  rw [h]
  congr 1
  funext i
  rw [col_at]
theorem mixed_at (c : Nat → Nat) (ps : List (List Nat)) (L j : Nat) (hj : j < L) : (mixed c ps L).getD j 0 = mixAt c ps j ps.length := by
  simp [mixed, List.getD, hj]
theorem range_nodup (n : Nat) : (List.range n).Nodup := List.nodup_range
theorem range_getD {n i : Nat} (h : i < n) : (List.range n).getD i 0 = i := by simp [List.getD, h]
theorem col_els {ps : List (List Nat)} (h : ∀ p ∈ ps, Els p) (j : Nat) : Els (col ps j) := fun x hx => by
  obtain ⟨p, hp, rfl⟩ := List.mem_map.1 hx
  exact els_getD (h p hp) j
/-- the byte at place j of the piece x, of a text spread -/
def spot (s : List Nat) (n j x : Nat) : Nat := line (List.range n) (col (firsts s n) j) x
theorem spot_pol {s : List Nat} (hs : Els s) {n : Nat} (hn : n ≤ 256) (j : Nat) : Pol n (spot s n j) := by
  have := line_pol (range_els hn) (col_els (firsts_els hs n) j)
  rw [List.length_range] at this
  exact this
theorem firsts_getD (s : List Nat) {n i : Nat} (h : i < n) : (firsts s n).getD i [] = cutL s n i := by simp [firsts, List.getD, h]
theorem spot_first {s : List Nat} (hs : Els s) {n : Nat} (hn : n ≤ 256) (j : Nat) {x : Nat} (hx : x < n) : spot s n j x = (cutL s n x).getD j 0 := by
  have h := line_at (range_els hn) (col_els (firsts_els hs n) j) x (by simpa using hx) (by simp [col_len, firsts_len]) (fun k hk hkx => by
    have hk' : k < n := by simpa using hk
    rw [range_getD hk', range_getD hx]; exact hkx)
  rw [range_getD hx, col_at, firsts_getD s hx] at h
  exact h
theorem spread_getD_first (s : List Nat) {n x : Nat} (m : Nat) (h : x < n) : (spreadL s n m).getD x [] = cutL s n x := by
  have hl := firsts_len s n
  unfold spreadL
  rw [List.getD, List.getElem?_append_left (by omega)]
  exact firsts_getD s h
theorem spread_getD_rest (s : List Nat) {n m x : Nat} (h : n ≤ x) (h2 : x < n + m) : (spreadL s n m).getD x [] = rest1 (firsts s n) n (plen n s.length) (x - n) := by
  have hl := firsts_len s n
  unfold spreadL
  rw [List.getD, List.getElem?_append_right (by omega), hl]
  have : x - n < m := by omega
  simp [rests, this]
theorem spread_at {s : List Nat} (hs : Els s) {n m x : Nat} (hn : n ≤ 256) (hx : x < n + m) {j : Nat} (hj : j < plen n s.length) : ((spreadL s n m).getD x []).getD j 0 = spot s n j x := by
  by_cases h : x < n
  · rw [spread_getD_first s m h, spot_first hs hn j h]
  · rw [spread_getD_rest s (by omega) hx]
    unfold rest1
    rw [mixed_at _ _ _ _ hj, mix_line _ _ _ _ (by rw [List.length_range, firsts_len]), show n + (x - n) = x by omega]
    rfl
theorem spread_len_at (s : List Nat) {n m x : Nat} (hx : x < n + m) : ((spreadL s n m).getD x []).length = plen n s.length := by
  by_cases h : x < n
  · rw [spread_getD_first s m h, cutL_len h]
  · rw [spread_getD_rest s (by omega) hx]; exact mixed_len _ _ _
theorem spread_els {s : List Nat} (hs : Els s) {n m x : Nat} (hx : x < n + m) : Els ((spreadL s n m).getD x []) := by
  by_cases h : x < n
  · rw [spread_getD_first s m h]; exact cutL_els hs _ _
  · rw [spread_getD_rest s (by omega) hx]; exact mixed_els _ _ _ (weight_lt _ _)
/-- as many pieces as are needed, whichever, mixed: the first pieces -/
theorem mixed_back {s : List Nat} (hs : Els s) {n m : Nat} (h1 : n + m ≤ 256) {xs : List Nat} {ps : List (List Nat)} (hl : xs.length = n) (hp : ps.length = n) (hn : xs.Nodup) (hx : ∀ x ∈ xs, x < n + m) (he : ∀ i, i < n → ps.getD i [] = (spreadL s n m).getD (xs.getD i 0) []) {t : Nat} (ht : t < n) : mixed (weight xs t) ps (plen n s.length) = cutL s n t := by
  have hxe : Els xs := fun x h => by have := hx x h; omega
  apply List.ext_getElem
  · rw [mixed_len, cutL_len ht]
  · intro j hj1 hj2
    have hj : j < plen n s.length := by rwa [mixed_len] at hj1
    have h2 := mixed_at (weight xs t) ps _ j hj
    have h3 : line xs (col ps j) t = spot s n j t := by
      refine line_all (f := spot s n j) (by rw [hl]; exact spot_pol hs (by omega) j) hxe hn (by rw [col_len, hp, hl]) (fun i hi => ?_) t (by omega)
      have hxi : xs.getD i 0 < n + m := by rw [getD_at hi]; exact hx _ (List.getElem_mem hi)
      rw [col_at, he i (by omega), spread_at hs (by omega) hxi hj]
    rw [mix_line _ _ _ _ (by rw [hl, hp]), h3, spot_first hs (by omega) j ht] at h2
    rw [List.getD, List.getElem?_eq_getElem hj1, List.getD, List.getElem?_eq_getElem hj2] at h2
    simpa using h2
theorem flat_cut (s : List Nat) (n : Nat) (h : 0 < n) : (List.range n).flatMap (cutL s n) = pad s n := by
  have hp := pad_len (s := s) h
  have key : ∀ k, k ≤ n → (List.range k).flatMap (cutL s n) = (pad s n).take (k * plen n s.length) := by
    intro k
    induction k with
    | zero => intro _; simp
    | succ k ih =>
      intro hk
      rw [List.range_succ, List.flatMap_append, ih (by omega)]
      simp only [List.flatMap_cons, List.flatMap_nil, List.append_nil]
      rw [Nat.add_mul, Nat.one_mul, List.take_add]
      rfl
  rw [key n (Nat.le_refl _), ← hp, List.take_length]
theorem pad_take (s : List Nat) (n : Nat) : (pad s n).take s.length = s := by simp [pad]
end Go.Proofs.Ytkanhjafchiikaa.Gf

/- What the program's mix of numbers answers. -/
namespace Go.Proofs.Ytkanhjafchiikaa.Gf
open Go.RowKit Go.Proofs.Ytkanhjafchiikaa.Mem

end Go.Proofs.Ytkanhjafchiikaa.Gf

/- What the program's Interp answers. -/
namespace Go.Proofs.Ytkanhjafchiikaa.Gf
open Go.RowKit Go.Proofs.Ytkanhjafchiikaa.Mem

theorem infoI64s : (Try.prog.info? 58).map (fun i => (i.zero, i.size, i.bytes)) = some (some (.slice none 0 0), 1, 24) := by kernel_rfl
/-- Of n lists of one number the first k, in the blocks from B on. -/
def boxes (B n k : Nat) : List Value := (List.range n).map fun j => if j < k then .slice (some ⟨B + j, 0, none⟩) 1 1 else .slice none 0 0
theorem boxes_start (B n : Nat) : boxes B n 0 = List.replicate n (.slice none 0 0) := by
  apply List.ext_getElem
  · simp [boxes]
  · intro j h1 h2; simp [boxes]
theorem boxes_at (B n k : Nat) (h : k < n) : (boxes B n k)[k]? = some (.slice none 0 0) := by simp [boxes, h]
theorem boxes_in (B n k j : Nat) (hj : j < k) (hk : k ≤ n) : (boxes B n k)[j]? = some (.slice (some ⟨B + j, 0, none⟩) 1 1) := by
  have : j < n := by omega
  simp [boxes, this, hj]
theorem boxes_set (B n k : Nat) : (boxes B n k).set k (.slice (some ⟨B + k, 0, none⟩) 1 1) = boxes B n (k + 1) := by
  apply List.ext_getElem
  · simp [boxes]
  · intro j h1 h2
    by_cases e : k = j
    · subst e; simp [boxes]
    · rw [List.getElem_set_ne e]
      by_cases e2 : j < k
      · have : j < k + 1 := by omega
        simp [boxes, e2, this]
      · have : ¬ j < k + 1 := by omega
        simp [boxes, e2, this]
/-- The lists of one number each. -/
def ones (ys : List Nat) : List (List Nat) := ys.map fun y => [y]
theorem mixed_ones (c : Nat → Nat) (ys : List Nat) : mixed c (ones ys) 1 = [sumTo c (fun i => ys.getD i 0) ys.length] := by
  have : ∀ k, mixAt c (ones ys) 0 k = sumTo c (fun i => ys.getD i 0) k := by
    intro k
    unfold mixAt
    congr 1
    funext i
    by_cases h : i < ys.length <;> simp [ones, List.getD, h]
  have e : mixed c (ones ys) 1 = [mixAt c (ones ys) 0 (ones ys).length] := rfl
  rw [e, this]
  simp [ones]

theorem els_ones {ys : List Nat} (h : Els ys) : ∀ p ∈ ones ys, Els p := fun p hp x hx => by
  obtain ⟨y, hy, rfl⟩ := List.mem_map.1 hp
  simp at hx; subst hx; exact h _ hy
theorem len_ones (ys : List Nat) : ∀ p ∈ ones ys, p.length = 1 := fun p hp => by
  obtain ⟨y, hy, rfl⟩ := List.mem_map.1 hp; rfl
theorem lists_ones {W : World} {g B : Nat} {ys : List Nat} {T : TypeId} (hr : HasRow W g (boxes B ys.length ys.length) T) (hc : ∀ j (h : j < ys.length), W.cell? ⟨B + j, 0, none⟩ = some (.int .i64 (ys[j] : Nat))) (cap : Nat) : Lists .i64 W (.slice (some ⟨g, 0, none⟩) ys.length cap) (ones ys) := by
  have hl : (ones ys).length = ys.length := by simp [ones]
  refine ⟨_, cap, by rw [hl], fun j hj => ?_⟩
  have hj2 : j < ys.length := by omega
  refine ⟨g, 0, .slice (some ⟨B + j, 0, none⟩) 1 1, rfl, ?_, ?_⟩
  · rw [Nat.zero_add, Mem.cell_of_row hr, boxes_in _ _ _ _ hj2 (Nat.le_refl _)]
  · have e : (ones ys)[j] = [ys[j]] := by simp [ones]
    rw [e]
    refine ⟨_, 1, rfl, fun i hi => ⟨_, 0, rfl, ?_⟩⟩
    obtain rfl : i = 0 := by simpa using hi
    exact hc j hj2

theorem countsAt_any (vx : Value) (xs : List Nat) (t : Nat) (w : World) (h : NumsK .i64 w vx xs) :
    Calls Try.prog 33 #[vx, .int .i64 t] w fun e w' => ∃ bx bt, e = .returned (.func (.func 58) #[] #[.pointer (some ⟨bx, 0, none⟩), .pointer (some ⟨bt, 0, none⟩)]) ∧ Clos w' bx bt xs t ∧ Below w.heap.size w w' := by
  have hmf : ∀ W x y, (Instr.makeFunc (Fn.func 58) #[] #[x, y]).run Try.prog W = .ok (.func (.func 58) #[] #[x, y]) W := fun _ _ _ => rfl
  have HB : Hid (∀ o o', Below w.heap.size w ((w.alloc o).alloc o')) := fun o o' => balloc (balloc (Below.refl _ _) o) o'
  have HN : Hid (NumsK .i64 w vx xs) := h
  obtain ⟨a, cap, rfl⟩ := h.shape
  clear h
  go_enter Try.func33, Try.ntmps33
  go_wp2
  go_ret
  exact ⟨_, _, rfl, ⟨_, by simp, by simp, HN.out.below (HB.out _ _)⟩, HB.out _ _⟩

end Go.Proofs.Ytkanhjafchiikaa.Gf

/- A frame as eight cells, and when it is right. -/
namespace Go.Proofs.Ytkanhjafchiikaa.Frm
open Go.RowKit Go.Proofs.Ytkanhjafchiikaa.Gf

/-- A frame: its six numbers, its shard's Index and its Data. -/
structure Fr where
  o : Int
  g : Int
  gs : Int
  n : Int
  m : Int
  s : Int
  x : Int
  t : ByteArray
def Fr.val (f : Fr) : Value := .agg #[.int .i64 f.o, .int .i64 f.g, .int .i64 f.gs, .int .i64 f.n, .int .i64 f.m, .int .i64 f.s, .int .i64 f.x, .string f.t]
def Fr.right (f : Fr) : Bool := isB f.o 1 1000000 && isB f.gs 1 9 && isB f.g 0 (f.gs - 1) && fineB f.n f.m f.s && isB f.x 0 (f.n + f.m - 1) && decide (f.t.size = plen f.n.toNat f.s.toNat)
theorem isB_iff {n l h : Int} : isB n l h = true ↔ l ≤ n ∧ n ≤ h := by simp [isB]
theorem isB_no {n l h : Int} : isB n l h = false ↔ ¬ (l ≤ n ∧ n ≤ h) := by simp [isB]
/-- where the first fault lies -/
theorem Fr.cases (f : Fr) : (isB f.o 1 1000000 = false ∧ f.right = false) ∨ (isB f.o 1 1000000 = true ∧ isB f.gs 1 9 = false ∧ f.right = false) ∨ (isB f.o 1 1000000 = true ∧ isB f.gs 1 9 = true ∧ isB f.g 0 (f.gs - 1) = false ∧ f.right = false) ∨ (isB f.o 1 1000000 = true ∧ isB f.gs 1 9 = true ∧ isB f.g 0 (f.gs - 1) = true ∧ fineB f.n f.m f.s = false ∧ f.right = false) ∨ (isB f.o 1 1000000 = true ∧ isB f.gs 1 9 = true ∧ isB f.g 0 (f.gs - 1) = true ∧ fineB f.n f.m f.s = true ∧ isB f.x 0 (f.n + f.m - 1) = false ∧ f.right = false) ∨ (isB f.o 1 1000000 = true ∧ isB f.gs 1 9 = true ∧ isB f.g 0 (f.gs - 1) = true ∧ fineB f.n f.m f.s = true ∧ isB f.x 0 (f.n + f.m - 1) = true ∧ f.right = decide (f.t.size = plen f.n.toNat f.s.toNat)) := by
  unfold Fr.right
  cases isB f.o 1 1000000 <;> cases isB f.gs 1 9 <;> cases isB f.g 0 (f.gs - 1) <;> cases fineB f.n f.m f.s <;> cases isB f.x 0 (f.n + f.m - 1) <;> simp
end Go.Proofs.Ytkanhjafchiikaa.Frm

/- What the laws' own functions on frames answer. -/
namespace Go.Proofs.Ytkanhjafchiikaa.Frm
open Go.RowKit Go.Proofs.Ytkanhjafchiikaa.Mem Go.Proofs.Ytkanhjafchiikaa.Gf Go.Proofs.Ytkanhjafchiikaa.Harn

theorem toShard1 (x : Int) (t : ByteArray) (w : World) :
    Calls Try.prog 44 #[.agg #[.int .i64 x, .string t]] w fun e w' => e = .returned (.agg #[.int .i64 x, .string t]) ∧ Below w.heap.size w w' := by
  go_enter Try.func44, Try.ntmps44
  go_wp2
  exact bodyPost_ret (v := .agg #[.int .i64 x, .string t]) (by simp [results, Try.results44, go_sem]) rfl ⟨rfl, (((Below.refl _ _).alloc (Nat.le_refl _) _).alloc (by simp) _).alloc (by simp; omega) _⟩

theorem toFrame_any (f : Fr) (w : World) :
    Calls Try.prog 21 #[f.val] w fun e w' => e = .returned f.val ∧ Below w.heap.size w w' := by
  obtain ⟨o, g, gs, n, m, s, x, t⟩ := f
  unfold Fr.val
  dsimp only
  go_enter Try.func21, Try.ntmps21
  go_wp2_with (go_at_call 44; refine (toShard1 _ _ _).mono ?_; rintro e w1 ⟨rfl, hb1⟩; obtain ⟨hcc, hff⟩ := bcell hb1; simp at hcc hff; have hz := hb1.size; simp at hz)
  exact bodyPost_ret (v := .agg #[.int .i64 o, .int .i64 g, .int .i64 gs, .int .i64 n, .int .i64 m, .int .i64 s, .int .i64 x, .string t]) (by simp [results, Try.results21, go_sem, hcc]) rfl ⟨rfl, by
    have hB : Below w.heap.size w w1 := Below.trans ((((Below.refl w.heap.size w).alloc (Nat.le_refl _) _).alloc (by simp) _).alloc (by simp; omega) _) (hb1.mono (by simp; omega))
    clear hcc hff hb1
    iterate 8 refine Below.setCell (p := ⟨w.heap.size + 1, _, none⟩) ?_ (by simp) _
    iterate 2 refine Below.setCell (p := ⟨w.heap.size + 1 + 1, _, none⟩) ?_ (by simp; omega) _
    exact hB⟩

theorem szShard1 (x : Int) (t : ByteArray) (left : Int) (w : World) (hl : 0 ≤ left) (hl2 : left ≤ 1048576) (ht : t.size ≤ maxLen) :
    Calls Try.prog 43 #[.agg #[.int .i64 x, .string t], .int .i64 left] w fun e w' => e = .returned (.int .i64 (if left < t.size then -1 else left - t.size)) ∧ Below w.heap.size w w' := by
  unfold maxLen at ht
  by_cases h : left < t.size
  · rw [if_pos h]
    have h1 : left - (t.size : Int) < 0 := by omega
    have h2 : -9223372036854775808 ≤ left - (t.size : Int) := by omega
    go_enter Try.func43, Try.ntmps43
    go_wp2
    go_ret
    exact ⟨rfl, (Below.refl _ _).alloc (Nat.le_refl _) _⟩
  · rw [if_neg h]
    have h1 : ¬ left - (t.size : Int) < 0 := by omega
    go_enter Try.func43, Try.ntmps43
    go_wp2
    go_ret
    exact ⟨rfl, (Below.refl _ _).alloc (Nat.le_refl _) _⟩
theorem szFrame_any (f : Fr) (left : Int) (w : World) (hl : 0 ≤ left) (hl2 : left ≤ 1048576) (ht : f.t.size ≤ maxLen) :
    Calls Try.prog 19 #[f.val, .int .i64 left] w fun e w' => e = .returned (.int .i64 (if left < f.t.size then -1 else left - f.t.size)) ∧ Below w.heap.size w w' := by
  obtain ⟨o, g, gs, n, m, s, x, t⟩ := f
  unfold Fr.val
  dsimp only at *
  have HS : Hid (∀ W, Calls Try.prog 43 #[.agg #[.int .i64 x, .string t], .int .i64 left] W fun e w' => e = .returned (.int .i64 (if left < t.size then -1 else left - t.size)) ∧ Below W.heap.size W w') := fun W => szShard1 x t left W hl hl2 ht
  have HZ : (if left < t.size then -1 else left - t.size) < 0 ∧ (if left < t.size then -1 else left - t.size) = -1 ∨ ¬ (if left < t.size then -1 else left - t.size) < 0 ∧ (if left < t.size then -1 else left - t.size) ≤ 1048576 := by split <;> omega
  generalize (if left < (t.size : Int) then -1 else left - (t.size : Int)) = z at *
  rcases HZ with ⟨h1, rfl⟩ | ⟨h1, h2⟩
  all_goals
    go_enter Try.func19, Try.ntmps19
    go_wp2_with (go_at_call 43; refine (HS.out _).mono ?_; rintro e w1 ⟨rfl, hb1⟩)
    go_ret
    exact ⟨rfl, bstep ((Below.refl _ _).alloc (Nat.le_refl _) _) hb1⟩
end Go.Proofs.Ytkanhjafchiikaa.Frm
