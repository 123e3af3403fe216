/- A scope in which the run jumps to several labels: what holds at every jump, and a measure that every pass from a label lowers. -/
import Derived.ScopeJumps
import Derived.WalkMore
namespace Go.Proofs.YtkanhjafchiikaaDoor.Scope

/-- As Q; by a goto to label l: what J says of l. -/
def jumpN (J : Nat → Act → World → Prop) (Q : Exit → Act → World → Prop) : Exit → Act → World → Prop
  | .goto l, a, w => J l a w
  | e, a, w => Q e a w

theorem wp_scope_many {P : Program} {a : Act} {w : World} {Q : Exit → Act → World → Prop} {c : Code} (J : Nat → Act → World → Prop) (μ : Nat → Act → World → Nat) (rest : Nat → Code)
    (hf : ∀ l a w, J l a w → findLabel c l = some (rest l)) (first : c.wp P (jumpN J Q) a w)
    (pass : ∀ l a w, J l a w → (rest l).wp P (jumpN (fun l' a' w' => J l' a' w' ∧ μ l' a' w' < μ l a w) Q) a w) : (Code.scope c).wp P Q a w := by
  intro b k cs
  have key : ∀ n l a w, μ l a w = n → J l a w → ∃ e a' w', Q e a' w' ∧ Arrives P (lone (b.at a (.code (rest l) :: .inScope c :: k)) cs w) b k cs e a' w' := by
    intro n
    induction n using Nat.strongRecOn with
    | _ n ih =>
      intro l a w hn hJ
      obtain ⟨e, a₁, w₁, hq, harr⟩ := pass l a w hJ b (.inScope c :: k) cs
      cases e with
      | normal => exact ⟨.normal, a₁, w₁, hq, Steps.trans harr (.one step_inScope)⟩
      | exit id => exact ⟨.exit id, a₁, w₁, hq, fun k' hk => harr k' (by simp [exitTo, hk])⟩
      | goto l' =>
        obtain ⟨hJ', hlt⟩ := hq
        have hg : gotoIn l' (.inScope c :: k) = some (.code (rest l') :: .inScope c :: k) := by simp [gotoIn, hf l' a₁ w₁ hJ']
        obtain ⟨e₂, a₂, w₂, hq₂, harr₂⟩ := ih _ (by omega) l' a₁ w₁ rfl hJ'
        exact ⟨e₂, a₂, w₂, hq₂, .of_steps (harr _ hg) harr₂⟩
      | ret => exact ⟨_, a₁, w₁, hq, harr⟩
      | panic ch => exact ⟨_, a₁, w₁, hq, harr⟩
      | outgrown => exact ⟨_, a₁, w₁, hq, harr⟩
  obtain ⟨e, a₁, w₁, hq, harr⟩ := first b (.inScope c :: k) cs
  cases e with
  | normal => exact ⟨.normal, a₁, w₁, hq, .head step_scope (Steps.trans harr (.one step_inScope))⟩
  | exit id => exact ⟨.exit id, a₁, w₁, hq, fun k' hk => .head step_scope (harr k' (by simp [exitTo, hk]))⟩
  | goto l' =>
    have hJ' : J l' a₁ w₁ := hq
    have hg : gotoIn l' (.inScope c :: k) = some (.code (rest l') :: .inScope c :: k) := by simp [gotoIn, hf l' a₁ w₁ hJ']
    obtain ⟨e₂, a₂, w₂, hq₂, harr₂⟩ := key _ l' a₁ w₁ rfl hJ'
    exact ⟨e₂, a₂, w₂, hq₂, .of_steps (.head step_scope (harr _ hg)) harr₂⟩
  | ret => exact ⟨_, a₁, w₁, hq, .of_steps (.one step_scope) harr⟩
  | panic ch => exact ⟨_, a₁, w₁, hq, .of_steps (.one step_scope) harr⟩
  | outgrown => exact ⟨_, a₁, w₁, hq, .of_steps (.one step_scope) harr⟩

/-- What holds at a jump to one of three labels. -/
def jump3 (J0 J1 J2 : Act → World → Prop) : Nat → Act → World → Prop
  | 0 => J0
  | 1 => J1
  | 2 => J2
  | _ => fun _ _ => False

theorem wp_scope_three {P : Program} {a : Act} {w : World} {Q : Exit → Act → World → Prop} {c r0 r1 r2 : Code} (J0 J1 J2 : Act → World → Prop) (μ0 μ1 μ2 : Act → World → Nat)
    (hf0 : findLabel c 0 = some r0) (hf1 : findLabel c 1 = some r1) (hf2 : findLabel c 2 = some r2)
    (first : c.wp P (jumpN (jump3 J0 J1 J2) Q) a w)
    (pass0 : ∀ a w, J0 a w → r0.wp P (jumpN (jump3 (fun a' w' => J0 a' w' ∧ μ0 a' w' < μ0 a w) (fun a' w' => J1 a' w' ∧ μ1 a' w' < μ0 a w) (fun a' w' => J2 a' w' ∧ μ2 a' w' < μ0 a w)) Q) a w)
    (pass1 : ∀ a w, J1 a w → r1.wp P (jumpN (jump3 (fun a' w' => J0 a' w' ∧ μ0 a' w' < μ1 a w) (fun a' w' => J1 a' w' ∧ μ1 a' w' < μ1 a w) (fun a' w' => J2 a' w' ∧ μ2 a' w' < μ1 a w)) Q) a w)
    (pass2 : ∀ a w, J2 a w → r2.wp P (jumpN (jump3 (fun a' w' => J0 a' w' ∧ μ0 a' w' < μ2 a w) (fun a' w' => J1 a' w' ∧ μ1 a' w' < μ2 a w) (fun a' w' => J2 a' w' ∧ μ2 a' w' < μ2 a w)) Q) a w) :
    (Code.scope c).wp P Q a w := by
  have hj : ∀ (M : Nat), (fun l' a' w' => jump3 J0 J1 J2 l' a' w' ∧ (match l' with | 0 => μ0 | 1 => μ1 | _ => μ2) a' w' < M) = jump3 (fun a' w' => J0 a' w' ∧ μ0 a' w' < M) (fun a' w' => J1 a' w' ∧ μ1 a' w' < M) (fun a' w' => J2 a' w' ∧ μ2 a' w' < M) := by
    intro M
    funext l' a' w'
    match l' with
    | 0 => rfl
    | 1 => rfl
    | 2 => rfl
    | n + 3 => simp [jump3]
  refine wp_scope_many (jump3 J0 J1 J2) (fun l' => match l' with | 0 => μ0 | 1 => μ1 | _ => μ2) (fun l' => match l' with | 0 => r0 | 1 => r1 | _ => r2) ?_ first ?_
  · intro l a w h
    match l, h with
    | 0, _ => exact hf0
    | 1, _ => exact hf1
    | 2, _ => exact hf2
  · intro l a w h
    match l, h with
    | 0, h => rw [hj]; exact pass0 a w h
    | 1, h => rw [hj]; exact pass1 a w h
    | 2, h => rw [hj]; exact pass2 a w h
end Go.Proofs.YtkanhjafchiikaaDoor.Scope
