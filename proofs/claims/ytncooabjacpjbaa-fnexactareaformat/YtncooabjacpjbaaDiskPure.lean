/- What a disk reads, what a flush and a crash leave: plain lists. -/
namespace Go.Proofs.Ytncooabjacpjbaa.DiskP

theorem snoc_ind {α : Type} {p : List α → Prop} (h0 : p []) (h1 : ∀ l a, p l → p (l ++ [a])) (l : List α) : p l := by
  have h : ∀ r : List α, p r.reverse := by
    intro r
    induction r with
    | nil => simpa using h0
    | cons a r ih => simpa using h1 _ a ih
  simpa using h l.reverse

/-- The last pending write at a place. -/
def lastOf (lp : List (Int × ByteArray)) (x : Int) : Option (Int × ByteArray) := lp.foldl (fun o y => if y.1 = x then some y else o) none
theorem lastOf_nil (x : Int) : lastOf [] x = none := rfl
theorem lastOf_snoc (lp : List (Int × ByteArray)) (y : Int × ByteArray) (x : Int) : lastOf (lp ++ [y]) x = if y.1 = x then some y else lastOf lp x := by
  unfold lastOf
  rw [List.foldl_append]
  rfl
theorem lastOf_mem {lp : List (Int × ByteArray)} {x : Int} {y : Int × ByteArray} : lastOf lp x = some y → y ∈ lp ∧ y.1 = x := by
  refine snoc_ind (p := fun lp => lastOf lp x = some y → y ∈ lp ∧ y.1 = x) (fun h => by cases h) (fun l z ih h => ?_) lp
  rw [lastOf_snoc] at h
  split at h
  · rename_i hz
    cases h
    exact ⟨by simp, hz⟩
  · have := ih h
    exact ⟨by simp [this.1], this.2⟩

/-- What is read at a place: the last pending write's, or the sector's. -/
def readD (ls : List ByteArray) (lp : List (Int × ByteArray)) (k : Nat) : ByteArray := match lastOf lp (k : Int) with
  | some y => y.2
  | none => ls.getD k ByteArray.empty
theorem readD_nil (ls : List ByteArray) (k : Nat) (h : k < ls.length) : readD ls [] k = ls[k] := by
  simp [readD, lastOf_nil, h]
theorem readD_snoc (ls : List ByteArray) (lp : List (Int × ByteArray)) (y : Int × ByteArray) (k : Nat) : readD ls (lp ++ [y]) k = if y.1 = (k : Int) then y.2 else readD ls lp k := by
  unfold readD
  rw [lastOf_snoc]
  by_cases h : y.1 = (k : Int)
  · rw [if_pos h, if_pos h]
  · rw [if_neg h, if_neg h]
theorem readD_some {ls : List ByteArray} {lp : List (Int × ByteArray)} {k : Nat} {y : Int × ByteArray} (h : lastOf lp (k : Int) = some y) : readD ls lp k = y.2 := by unfold readD; rw [h]
theorem readD_none {ls : List ByteArray} {lp : List (Int × ByteArray)} {k : Nat} (h : lastOf lp (k : Int) = none) (hk : k < ls.length) : readD ls lp k = ls[k] := by unfold readD; rw [h]; simp [hk]

/-- All of them, in order, in the sectors. -/
def flushD (ls : List ByteArray) (lp : List (Int × ByteArray)) : List ByteArray := lp.foldl (fun l y => l.set y.1.toNat y.2) ls
theorem flushD_nil (ls : List ByteArray) : flushD ls [] = ls := rfl
theorem flushD_snoc (ls : List ByteArray) (lp : List (Int × ByteArray)) (y : Int × ByteArray) : flushD ls (lp ++ [y]) = (flushD ls lp).set y.1.toNat y.2 := by
  unfold flushD
  rw [List.foldl_append]
  rfl
theorem length_flushD (ls : List ByteArray) (lp : List (Int × ByteArray)) : (flushD ls lp).length = ls.length := by
  refine snoc_ind (p := fun lp => (flushD ls lp).length = ls.length) rfl (fun l z ih => ?_) lp
  rw [flushD_snoc, List.length_set, ih]
theorem flushD_at (ls : List ByteArray) (lp : List (Int × ByteArray)) (h0 : ∀ y ∈ lp, 0 ≤ y.1) (k : Nat) (hk : k < ls.length) : (flushD ls lp)[k]'(by rw [length_flushD]; exact hk) = readD ls lp k := by
  have key : ∀ lp : List (Int × ByteArray), (∀ y ∈ lp, 0 ≤ y.1) → (flushD ls lp)[k]? = some (readD ls lp k) := by
    refine snoc_ind (p := fun lp => (∀ y ∈ lp, 0 ≤ y.1) → (flushD ls lp)[k]? = some (readD ls lp k)) (fun _ => ?_) (fun l z ih h => ?_)
    · rw [readD_nil ls k hk]
      exact List.getElem?_eq_getElem hk
    · have hz : 0 ≤ z.1 := h z (by simp)
      rw [flushD_snoc, readD_snoc]
      by_cases e : z.1 = (k : Int)
      · have e2 : z.1.toNat = k := by omega
        rw [if_pos e, e2, List.getElem?_set_self (by rw [length_flushD]; exact hk)]
      · rw [if_neg e, List.getElem?_set_ne (by omega)]
        exact ih (fun y hy => h y (by simp [hy]))
  have := key lp h0
  rw [List.getElem?_eq_getElem (by rw [length_flushD]; exact hk)] at this
  exact Option.some.inj this

/-- The first k sectors are what is read there. -/
def flTo (ls : List ByteArray) (lp : List (Int × ByteArray)) (k : Nat) : List ByteArray := (List.range k).map (readD ls lp) ++ ls.drop k
theorem flTo_start (ls : List ByteArray) (lp : List (Int × ByteArray)) : flTo ls lp 0 = ls := by simp [flTo]
theorem length_flTo (ls : List ByteArray) (lp : List (Int × ByteArray)) (k : Nat) (h : k ≤ ls.length) : (flTo ls lp k).length = ls.length := by simp [flTo]; omega
theorem flTo_set (ls : List ByteArray) (lp : List (Int × ByteArray)) (k : Nat) (h : k < ls.length) : (flTo ls lp k).set k (readD ls lp k) = flTo ls lp (k + 1) := by
  have hl : ((List.range k).map (readD ls lp)).length = k := by simp
  unfold flTo
  rw [List.set_append_right _ _ (by omega), hl, Nat.sub_self, List.drop_eq_getElem_cons h, List.set_cons_zero]
  simp [List.range_succ]
theorem flTo_at (ls : List ByteArray) (lp : List (Int × ByteArray)) (k : Nat) (h : k < ls.length) : (flTo ls lp k)[k]? = some ls[k] := by
  have hl : ((List.range k).map (readD ls lp)).length = k := by simp
  unfold flTo
  rw [List.getElem?_append_right (by omega), hl, Nat.sub_self, List.drop_eq_getElem_cons h]
  rfl
theorem flTo_end (ls : List ByteArray) (lp : List (Int × ByteArray)) (h0 : ∀ y ∈ lp, 0 ≤ y.1) : flTo ls lp ls.length = flushD ls lp := by
  apply List.ext_getElem
  · rw [length_flTo _ _ _ (Nat.le_refl _), length_flushD]
  · intro i h1 h2
    have hi : i < ls.length := by rw [length_flushD] at h2; exact h2
    rw [flushD_at ls lp h0 i hi]
    simp [flTo]

/-- What a crash keeps of the first k. -/
def keptTo (lp : List (Int × ByteArray)) (kp : List Int) : Nat → List (Int × ByteArray)
  | 0 => []
  | k + 1 => keptTo lp kp k ++ (match lp[k]?, kp[k]? with
    | some y, some x => if 0 < x then [y] else []
    | _, _ => [])
def keptD (lp : List (Int × ByteArray)) (kp : List Int) : List (Int × ByteArray) := keptTo lp kp lp.length
theorem keptTo_yes (lp : List (Int × ByteArray)) (kp : List Int) (k : Nat) (h : k < lp.length) (h2 : k < kp.length) (h3 : 0 < kp[k]) : keptTo lp kp (k + 1) = keptTo lp kp k ++ [lp[k]] := by
  simp [keptTo, h, h2, h3]
theorem keptTo_low (lp : List (Int × ByteArray)) (kp : List Int) (k : Nat) (h2 : k < kp.length) (h3 : ¬ 0 < kp[k]) : keptTo lp kp (k + 1) = keptTo lp kp k := by
  simp only [keptTo, List.getElem?_eq_getElem h2]
  cases lp[k]? with
  | none => simp
  | some y => simp [h3]
theorem keptTo_out (lp : List (Int × ByteArray)) (kp : List Int) (k : Nat) (h2 : ¬ k < kp.length) : keptTo lp kp (k + 1) = keptTo lp kp k := by
  simp only [keptTo, List.getElem?_eq_none (show kp.length ≤ k by omega)]
  cases lp[k]? <;> simp
theorem keptTo_mem (lp : List (Int × ByteArray)) (kp : List Int) (k : Nat) : ∀ y ∈ keptTo lp kp k, y ∈ lp := by
  induction k with
  | zero => intro y hy; cases hy
  | succ k ih =>
    intro y hy
    unfold keptTo at hy
    rw [List.mem_append] at hy
    rcases hy with hy | hy
    · exact ih y hy
    · cases e : lp[k]? with
      | none => rw [e] at hy; cases hy
      | some z =>
        rw [e] at hy
        cases e2 : kp[k]? with
        | none => rw [e2] at hy; cases hy
        | some x =>
          rw [e2] at hy
          simp only at hy
          split at hy
          · have : y = z := by simpa using hy
            subst this
            exact List.mem_of_getElem? e
          · cases hy
theorem keptTo_len (lp : List (Int × ByteArray)) (kp : List Int) (k : Nat) : (keptTo lp kp k).length ≤ k := by
  induction k with
  | zero => simp [keptTo]
  | succ k ih =>
    unfold keptTo
    rw [List.length_append]
    have : (match lp[k]?, kp[k]? with | some y, some x => if 0 < x then [y] else [] | _, _ => ([] : List (Int × ByteArray))).length ≤ 1 := by
      split
      · split <;> simp
      · simp
    omega
end Go.Proofs.Ytncooabjacpjbaa.DiskP
