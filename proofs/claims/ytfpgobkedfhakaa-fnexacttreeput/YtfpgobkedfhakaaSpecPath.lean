/- What the model's split of a text answers. -/
import Derived.Test.YtfpgobkedfhakaaOwnVals
import Derived.Test.YtfpgobkedfhakaaTreePure
namespace Go.Proofs.Ytfpgobkedfhakaa.Tre
open Go.RowKit Go.Proofs.Ytfpgobkedfhakaa.Mem Go.Proofs.Ytfpgobkedfhakaa.Gf Go.Proofs.Ytfpgobkedfhakaa.Harn Go.Proofs.Ytfpgobkedfhakaa.Mark

theorem hidT {p : Prop} (h : p) : Hid p := h
theorem ofNat_eq {c : Nat} (hc : c < 256) (y : UInt8) (h : (y.toNat : Int) = (c : Int)) : y = UInt8.ofNat c := by
  apply UInt8.toNat_inj.1; rw [UInt8.toNat_ofNat']; omega
theorem ofNat_ne {c : Nat} (hc : c < 256) (y : UInt8) (h : ¬ (y.toNat : Int) = (c : Int)) : ¬ y = UInt8.ofNat c := by
  intro e; subst e; apply h; rw [UInt8.toNat_ofNat']; omega

set_option maxRecDepth 100000 in
set_option maxHeartbeats 1000000 in
/-- What stands between the signs c of a text. -/
theorem split_any (c : Nat) (hc : c < 256) (t : ByteArray) (w : World) (ht : t.size ≤ 1000000) :
    Calls Try.prog 105 #[.string t, .int .u8 (c : Int)] w fun e w' => ∃ v, e = .returned v ∧ OwnS w' w.heap.size v (splitG (UInt8.ofNat c) t 0 0) ∧ Below w.heap.size w w' := by
  have HL : Hid ((splitG (UInt8.ofNat c) t 0 0).length ≤ 1000001) := by
    have := split_len (UInt8.ofNat c) t (t.size - 0) 0 0 rfl (Nat.zero_le _); unfold Hid; omega
  generalize hS : splitG (UInt8.ofNat c) t 0 0 = S at HL ⊢
  have HSE : Hid (splitG (UInt8.ofNat c) t 0 0 = S) := hS
  clear hS
  go_enter Try.func105, Try.ntmps105
  go_wp2
  go_loopw [5, 6, 7] (fun u f i wr => ∃ (k q : Nat) (ol : List ByteArray), k ≤ t.size ∧ q ≤ k ∧ i = .int .i64 k ∧ f = .int .i64 q ∧ OwnS wr w.heap.size u ol ∧ Below w.heap.size w wr ∧ Hid (ol ++ splitG (UInt8.ofNat c) t q k = S)) (fun _ _ i _ => t.size - (intOf i).toNat)
  case atStart => exact ⟨0, 0, [], Nat.zero_le _, Nat.le_refl _, rfl, rfl, ownV_empty _ w _ (Nat.le_refl _), (Below.refl _ _).alloc (Nat.le_refl _) _, by unfold Hid; exact HSE.out⟩
  case round =>
    obtain ⟨k, q, ol, hk, hq, rfl, rfl, how, hbel, HS⟩ := hrel
    have HO := hidT how
    have HB := hidT hbel
    have hz := hbel.size
    have HOL : Hid (ol.length ≤ 1000001) := by
      have h1 := HS.out; have h2 := HL.out; unfold Hid
      rw [← h1, List.length_append] at h2; omega
    clear how hbel
    by_cases hlt : k < t.size
    · have p1 : (k : Int) < (t.size : Int) := by omega
      have p2 : (q : Int) ≤ (k : Int) := by omega
      have p3 : (k : Int) ≤ (t.size : Int) := by omega
      have p4 : (t.size : Int) ≤ 1000000 := by omega
      by_cases hy : ((t[k]'hlt).toNat : Int) = (c : Int)
      · have HE : Hid ((ol ++ [t.extract q k]) ++ splitG (UInt8.ofNat c) t (k + 1) (k + 1) = S) := by
          unfold Hid; rw [← HS.out, split_hit q hlt (ofNat_eq hc _ hy)]; simp
        clear HS
        have hyb : (((t[k]'hlt).toNat : Int) == (c : Int)) = true := by simpa using hy
        clear hy
        go_wp2_with (at_builtin; refine wp_str (by rfl) _ _ (by rfl) w.heap.size wr.heap.size u5 ol (t.extract q k) (by rfl) (by rfl) (OwnS.alloc HO.out _) (size_new hz _) (cell_new _ _ _) (by have := HOL.out; omega) ?_; intro g3 c3 w3 ho3 hb3 hz3; have HO3 := hidT ho3; have HB3 := hidT ((HB.out.alloc HB.out.size _).trans hb3); clear ho3 hb3 hz3)
        exact ⟨⟨k + 1, k + 1, _, by omega, Nat.le_refl _, by go_num, by go_num, HO3.out, HB3.out, HE⟩, by simp [intOf]; omega⟩
      · have HE : Hid (ol ++ splitG (UInt8.ofNat c) t q (k + 1) = S) := by
          unfold Hid; rw [← HS.out, split_miss q hlt (ofNat_ne hc _ hy)]
        clear HS
        have hyb : (((t[k]'hlt).toNat : Int) == (c : Int)) = false := by simpa using hy
        clear hy
        go_wp2
        exact ⟨⟨k + 1, q, ol, by omega, by omega, by go_num, rfl, HO.out, HB.out, HE⟩, by simp [intOf]; omega⟩
    · obtain rfl : k = t.size := by omega
      have HE : Hid (ol ++ [t.extract q t.size] = S) := by
        unfold Hid; rw [← HS.out, split_end q hlt]
      clear HS
      go_wp2_with (at_builtin; refine wp_str (by rfl) _ _ (by rfl) w.heap.size wr.heap.size u5 ol (t.extract q t.size) (by rfl) (by rfl) (OwnS.alloc HO.out _) (size_new hz _) (cell_new _ _ _) (by have := HOL.out; omega) ?_; intro g3 c3 w3 ho3 hb3 hz3; have HO3 := hidT ho3; have HB3 := hidT ((HB.out.alloc HB.out.size _).trans hb3); clear ho3 hb3 hz3)
      go_ret
      exact ⟨_, rfl, by rw [← HE.out]; exact HO3.out, HB3.out⟩

/-- Which bytes a part may have. -/
def OkI (y : Int) : Prop := (97 ≤ y ∧ y ≤ 122) ∨ (48 ≤ y ∧ y ≤ 57) ∨ y = 45 ∨ y = 46
theorem okI (y : UInt8) : okC y = true ↔ OkI (y.toNat : Int) := by unfold okC OkI; simp; omega
theorem okI_no (y : UInt8) : okC y = false ↔ ¬ OkI (y.toNat : Int) := by rw [← okI]; simp
theorem all_bad {S : List ByteArray} {k : Nat} (h : k < S.length) (hb : okPart S[k] = false) : (S.all okPart && decide (S.length ≤ 3)) = false := by
  have : S.all okPart = false := by
    rw [List.all_eq_false]
    exact ⟨_, List.getElem_mem h, by rw [hb]; simp⟩
  rw [this, Bool.false_and]
theorem split_sizes (c : UInt8) (t : ByteArray) : ∀ (n f i : Nat), t.size - i = n → ∀ x ∈ splitG c t f i, x.size ≤ t.size
  | 0, f, i, h, x, hx => by
    rw [split_end f (by omega)] at hx
    simp at hx; subst hx; simp
  | n + 1, f, i, h, x, hx => by
    have hlt : i < t.size := by omega
    by_cases hc : t[i]'hlt = c
    · rw [split_hit f hlt hc] at hx
      rcases List.mem_cons.1 hx with rfl | hx
      · simp; omega
      · exact split_sizes c t n (i + 1) (i + 1) (by omega) x hx
    · rw [split_miss f hlt hc] at hx
      exact split_sizes c t n f (i + 1) (by omega) x hx

set_option maxRecDepth 100000 in
set_option maxHeartbeats 2000000 in
theorem specPath_any (t : ByteArray) (w : World) :
    Calls Try.prog 82 #[.string t] w fun e w' => e = .returned (.bool (pathR t)) ∧ Below w.heap.size w w' := by
  by_cases ht : t.size ≤ 20
  · have HC : Hid (∀ W, Calls Try.prog 105 #[.string t, .int .u8 47] W fun e w' => ∃ v, e = .returned v ∧ OwnS w' W.heap.size v (splitG 47 t 0 0) ∧ Below W.heap.size W w') := fun W => split_any 47 (by omega) t W (by omega)
    have hp : pathR t = ((splitG 47 t 0 0).all okPart && decide ((splitG 47 t 0 0).length ≤ 3)) := by unfold pathR; rw [decide_eq_true ht, Bool.true_and]
    rw [hp]
    have HL : Hid ((splitG 47 t 0 0).length ≤ 21) := by
      have := split_len 47 t (t.size - 0) 0 0 rfl (Nat.zero_le _); unfold Hid; omega
    have HSZ : Hid (∀ j (h : j < (splitG 47 t 0 0).length), ((splitG 47 t 0 0)[j]).size ≤ 20) := fun j h => Nat.le_trans (split_sizes 47 t (t.size - 0) 0 0 rfl _ (List.getElem_mem h)) ht
    generalize splitG 47 t 0 0 = S at *
    have hts : (t.size : Int) ≤ 20 := by omega
    clear hp
    go_enter Try.func82, Try.ntmps82
    go_wp2_with fail
    refine (HC.out _).mono ?_
    rintro e w1 ⟨v, rfl, ho, hb⟩
    have HO := hidT ho
    have HB := hidT hb
    obtain ⟨a, cap, rfl, hcs⟩ := OwnS.strs ho
    have HCS := hidT hcs
    clear ho hb hcs
    go_wp2
    go_loopw [4] (fun i wr => wr = w1 ∧ ∃ k : Nat, k ≤ S.length ∧ i = .int .i64 k ∧ Hid (∀ j (h : j < S.length), j < k → okPart S[j] = true)) (fun i _ => S.length - (intOf i).toNat)
    case atStart => exact ⟨rfl, 0, Nat.zero_le _, rfl, fun j h h2 => absurd h2 (Nat.not_lt_zero j)⟩
    case round =>
      obtain ⟨rfl, k, hk, rfl, HK⟩ := hrel
      by_cases hlt : k < S.length
      · obtain ⟨b, o, rfl, c1⟩ := HCS.out k hlt
        have hx20 := HSZ.out k hlt
        have p1 : (k : Int) < (S.length : Int) := by omega
        have p9 : (S.length : Int) ≤ 21 := by have := HL.out; omega
        generalize hx : S[k] = x at *
        have HX := hidT hx
        clear hx
        have HN : Hid (named x = false → (S.all okPart && decide (S.length ≤ 3)) = false) := fun h => all_bad hlt (by rw [HX.out]; unfold okPart; rw [h, Bool.false_and])
        have HNB : Hid (∀ j (h : j < x.size), okC (x[j]'h) = false → (S.all okPart && decide (S.length ≤ 3)) = false) := fun j h h2 => all_bad hlt (by
          rw [HX.out]; unfold okPart
          have : x.data.toList.all okC = false := by
            rw [List.all_eq_false]
            exact ⟨x.data.toList[j]'h, List.getElem_mem _, by rw [show x.data.toList[j]'h = x[j]'h from rfl, h2]; simp⟩
          rw [this, Bool.and_false])
        have HG : Hid (named x = true → (∀ j (h : j < x.size), okC (x[j]'h) = true) → ∀ j (h : j < S.length), j < k + 1 → okPart S[j] = true) := fun h1 h2 j hj hjk => by
          by_cases e : j = k
          · subst e
            rw [HX.out]; unfold okPart
            rw [h1, Bool.true_and, List.all_eq_true]
            intro z hz
            obtain ⟨q, hq, rfl⟩ := List.getElem_of_mem hz
            exact h2 q hq
          · exact HK.out j hj (by omega)
        have hx9 : (x.size : Int) ≤ 20 := by omega
        by_cases hn : named x = true
        · have HG' := hidT (HG.out hn)
          unfold named at hn
          simp only [Bool.not_eq_true', Bool.or_eq_false_iff] at hn
          obtain ⟨⟨n1, n2⟩, n3⟩ := hn
          clear HN HG
          go_wp2
          go_loopw [5] (fun i wr2 => wr2 = wr ∧ ∃ q : Nat, q ≤ x.size ∧ i = .int .i64 q ∧ Hid (∀ j (h : j < x.size), j < q → okC (x[j]'h) = true)) (fun i _ => x.size - (intOf i).toNat)
          case atStart => exact ⟨rfl, 0, Nat.zero_le _, rfl, fun j h h2 => absurd h2 (Nat.not_lt_zero j)⟩
          case round =>
            obtain ⟨rfl, q, hq, rfl, HQ⟩ := hrel
            by_cases hq2 : q < x.size
            · have p2 : (q : Int) < (x.size : Int) := by omega
              have HNB' := hidT (HNB.out q hq2)
              have HQ2 : Hid (okC (x[q]'hq2) = true → ∀ j (h : j < x.size), j < q + 1 → okC (x[j]'h) = true) := fun h0 j hj hjk => by
                by_cases e : j = q
                · subst e; exact h0
                · exact HQ.out j hj (by omega)
              clear HNB
              rw [okI_no] at HNB'
              rw [okI] at HQ2
              generalize hy : (((x[q]'hq2).toNat : Nat) : Int) = y at *
              go_wp2
              all_goals (try simp only [Bool.not_eq_false', Bool.not_eq_true', beq_eq_false_iff_ne, decide_eq_true_eq, beq_iff_eq] at *)
              all_goals first
                | (go_ret; exact ⟨by rw [HNB'.out (by unfold OkI; omega)]; rfl, HB.out⟩)
                | (refine ⟨⟨True.intro, q + 1, by omega, by go_num, HQ2.out ?_⟩, by simp [intOf]; omega⟩; unfold OkI; omega)
            · obtain rfl : q = x.size := by omega
              have HF := hidT (HG'.out fun j hj => HQ.out j hj hj)
              clear HNB HG' HQ
              go_wp2
              all_goals first
                | exact ⟨⟨True.intro, k + 1, by omega, by go_num, HF.out⟩, by simp [intOf]; omega⟩
        · have hn' : named x = false := by simpa using hn
          have HF := hidT (HN.out hn')
          unfold named at hn'
          clear hn HN HG HNB
          go_wp2
          all_goals first
            | (go_ret; exact ⟨by rw [HF.out]; rfl, HB.out⟩)
            | (exfalso; simp_all; done)
      · obtain rfl : k = S.length := by omega
        have HF : Hid ((S.all okPart && decide (S.length ≤ 3)) = decide ((S.length : Int) ≤ 3)) := by
          have : S.all okPart = true := by
            rw [List.all_eq_true]
            intro z hz
            obtain ⟨q, hq, rfl⟩ := List.getElem_of_mem hz
            exact HK.out q hq hq
          unfold Hid
          rw [this, Bool.true_and]
          exact decide_eq_decide.2 (by omega)
        clear HK HCS
        go_wp2
        go_ret
        exact ⟨by rw [HF.out]; rfl, HB.out⟩
  · rw [pathR_big ht]
    have hts : ¬ (t.size : Int) ≤ 20 := by omega
    go_enter Try.func82, Try.ntmps82
    go_wp2
    go_ret
    exact ⟨rfl, Below.refl _ _⟩
end Go.Proofs.Ytfpgobkedfhakaa.Tre
