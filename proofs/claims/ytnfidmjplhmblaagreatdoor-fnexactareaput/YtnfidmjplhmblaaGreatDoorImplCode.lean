/- The code that an error of the package tells. -/
import Derived.Test.YtnfidmjplhmblaaGreatDoorIsSent
import Derived.Deep.RegionWith
namespace Go.Proofs.YtnfidmjplhmblaaGreatDoor.Sent
open Go.RowKit

/-- The package's errors on an area. -/
def sentL : List Nat := [1, 2, 3, 4, 5, 0]
/-- The code of each, OK of none. -/
def codeE : Option Nat → Int
  | none => 0
  | some 1 => 1
  | some 2 => 4
  | some 3 => 5
  | some 4 => 5
  | some 5 => 3
  | some 0 => 9
  | some _ => 0
theorem is_of (A : Nat → Addr) (x : Option Nat) (g : Nat) (b : Bool) (w : World) (h : SentsLaid w A sentL) (hx : ∀ k, x = some k → k ∈ sentL) (hg : g ∈ sentL) (hb : decide (x = some g) = b) :
    Calls Tryz.prog 51 #[errV A x, .iface 160 (.pointer (some (A g)))] w fun e w' => e = .returned (.bool b) ∧ w = w' := by
  subst hb
  exact errIs_any A sentL x g w h hx hg

set_option maxRecDepth 100000 in
set_option maxHeartbeats 2000000 in
theorem areaCode_any (A : Nat → Addr) (x : Option Nat) (w : World) (h : SentsLaid w A sentL) (hx : ∀ k, x = some k → k ∈ sentL) :
    Calls Tryz.prog 29 #[errV A x] w fun e w' => e = .returned (.int .i64 (codeE x)) ∧ w = w' := by
  have v0 := h.v 1 (by simp [sentL])
  have v1 := h.v 2 (by simp [sentL])
  have v2 := h.v 3 (by simp [sentL])
  have v3 := h.v 4 (by simp [sentL])
  have v4 := h.v 5 (by simp [sentL])
  have v5 := h.v 0 (by simp [sentL])
  have HL : Hid (SentsLaid w A sentL) := h
  have HX : Hid (∀ k, x = some k → k ∈ sentL) := hx
  rcases x with _ | k
  · have K0 : Hid (Calls Tryz.prog 51 #[errV A (none), .iface 160 (.pointer (some (A 1)))] w fun e w' => e = .returned (.bool false) ∧ w = w') := is_of A _ 1 false w HL.out HX.out (by simp [sentL]) (by decide)
    have K1 : Hid (Calls Tryz.prog 51 #[errV A (none), .iface 160 (.pointer (some (A 2)))] w fun e w' => e = .returned (.bool false) ∧ w = w') := is_of A _ 2 false w HL.out HX.out (by simp [sentL]) (by decide)
    have K2 : Hid (Calls Tryz.prog 51 #[errV A (none), .iface 160 (.pointer (some (A 3)))] w fun e w' => e = .returned (.bool false) ∧ w = w') := is_of A _ 3 false w HL.out HX.out (by simp [sentL]) (by decide)
    have K3 : Hid (Calls Tryz.prog 51 #[errV A (none), .iface 160 (.pointer (some (A 4)))] w fun e w' => e = .returned (.bool false) ∧ w = w') := is_of A _ 4 false w HL.out HX.out (by simp [sentL]) (by decide)
    have K4 : Hid (Calls Tryz.prog 51 #[errV A (none), .iface 160 (.pointer (some (A 5)))] w fun e w' => e = .returned (.bool false) ∧ w = w') := is_of A _ 5 false w HL.out HX.out (by simp [sentL]) (by decide)
    have K5 : Hid (Calls Tryz.prog 51 #[errV A (none), .iface 160 (.pointer (some (A 0)))] w fun e w' => e = .returned (.bool false) ∧ w = w') := is_of A _ 0 false w HL.out HX.out (by simp [sentL]) (by decide)
    generalize errV A (none) = ev at *
    clear h hx HX
    go_enter Tryz.func29, Tryz.ntmps29
    go_wp2_with (first
      | (go_at_call_of 51 (Value.pointer (some (A 1))); refine K0.out.mono ?_; rintro e w1 ⟨rfl, rfl⟩)
      | (go_at_call_of 51 (Value.pointer (some (A 2))); refine K1.out.mono ?_; rintro e w1 ⟨rfl, rfl⟩)
      | (go_at_call_of 51 (Value.pointer (some (A 3))); refine K2.out.mono ?_; rintro e w1 ⟨rfl, rfl⟩)
      | (go_at_call_of 51 (Value.pointer (some (A 4))); refine K3.out.mono ?_; rintro e w1 ⟨rfl, rfl⟩)
      | (go_at_call_of 51 (Value.pointer (some (A 5))); refine K4.out.mono ?_; rintro e w1 ⟨rfl, rfl⟩)
      | (go_at_call_of 51 (Value.pointer (some (A 0))); refine K5.out.mono ?_; rintro e w1 ⟨rfl, rfl⟩))
    go_ret
    exact ⟨rfl, rfl⟩
  · have hk := hx k rfl
    simp only [sentL, List.mem_cons, List.not_mem_nil, or_false] at hk
    rcases hk with rfl | rfl | rfl | rfl | rfl | rfl
    · have K0 : Hid (Calls Tryz.prog 51 #[errV A (some 1), .iface 160 (.pointer (some (A 1)))] w fun e w' => e = .returned (.bool true) ∧ w = w') := is_of A _ 1 true w HL.out HX.out (by simp [sentL]) (by decide)
      have K1 : Hid (Calls Tryz.prog 51 #[errV A (some 1), .iface 160 (.pointer (some (A 2)))] w fun e w' => e = .returned (.bool false) ∧ w = w') := is_of A _ 2 false w HL.out HX.out (by simp [sentL]) (by decide)
      have K2 : Hid (Calls Tryz.prog 51 #[errV A (some 1), .iface 160 (.pointer (some (A 3)))] w fun e w' => e = .returned (.bool false) ∧ w = w') := is_of A _ 3 false w HL.out HX.out (by simp [sentL]) (by decide)
      have K3 : Hid (Calls Tryz.prog 51 #[errV A (some 1), .iface 160 (.pointer (some (A 4)))] w fun e w' => e = .returned (.bool false) ∧ w = w') := is_of A _ 4 false w HL.out HX.out (by simp [sentL]) (by decide)
      have K4 : Hid (Calls Tryz.prog 51 #[errV A (some 1), .iface 160 (.pointer (some (A 5)))] w fun e w' => e = .returned (.bool false) ∧ w = w') := is_of A _ 5 false w HL.out HX.out (by simp [sentL]) (by decide)
      have K5 : Hid (Calls Tryz.prog 51 #[errV A (some 1), .iface 160 (.pointer (some (A 0)))] w fun e w' => e = .returned (.bool false) ∧ w = w') := is_of A _ 0 false w HL.out HX.out (by simp [sentL]) (by decide)
      generalize errV A (some 1) = ev at *
      clear h hx HX
      go_enter Tryz.func29, Tryz.ntmps29
      go_wp2_with (first
        | (go_at_call_of 51 (Value.pointer (some (A 1))); refine K0.out.mono ?_; rintro e w1 ⟨rfl, rfl⟩)
        | (go_at_call_of 51 (Value.pointer (some (A 2))); refine K1.out.mono ?_; rintro e w1 ⟨rfl, rfl⟩)
        | (go_at_call_of 51 (Value.pointer (some (A 3))); refine K2.out.mono ?_; rintro e w1 ⟨rfl, rfl⟩)
        | (go_at_call_of 51 (Value.pointer (some (A 4))); refine K3.out.mono ?_; rintro e w1 ⟨rfl, rfl⟩)
        | (go_at_call_of 51 (Value.pointer (some (A 5))); refine K4.out.mono ?_; rintro e w1 ⟨rfl, rfl⟩)
        | (go_at_call_of 51 (Value.pointer (some (A 0))); refine K5.out.mono ?_; rintro e w1 ⟨rfl, rfl⟩))
      go_ret
      exact ⟨rfl, rfl⟩
    · have K0 : Hid (Calls Tryz.prog 51 #[errV A (some 2), .iface 160 (.pointer (some (A 1)))] w fun e w' => e = .returned (.bool false) ∧ w = w') := is_of A _ 1 false w HL.out HX.out (by simp [sentL]) (by decide)
      have K1 : Hid (Calls Tryz.prog 51 #[errV A (some 2), .iface 160 (.pointer (some (A 2)))] w fun e w' => e = .returned (.bool true) ∧ w = w') := is_of A _ 2 true w HL.out HX.out (by simp [sentL]) (by decide)
      have K2 : Hid (Calls Tryz.prog 51 #[errV A (some 2), .iface 160 (.pointer (some (A 3)))] w fun e w' => e = .returned (.bool false) ∧ w = w') := is_of A _ 3 false w HL.out HX.out (by simp [sentL]) (by decide)
      have K3 : Hid (Calls Tryz.prog 51 #[errV A (some 2), .iface 160 (.pointer (some (A 4)))] w fun e w' => e = .returned (.bool false) ∧ w = w') := is_of A _ 4 false w HL.out HX.out (by simp [sentL]) (by decide)
      have K4 : Hid (Calls Tryz.prog 51 #[errV A (some 2), .iface 160 (.pointer (some (A 5)))] w fun e w' => e = .returned (.bool false) ∧ w = w') := is_of A _ 5 false w HL.out HX.out (by simp [sentL]) (by decide)
      have K5 : Hid (Calls Tryz.prog 51 #[errV A (some 2), .iface 160 (.pointer (some (A 0)))] w fun e w' => e = .returned (.bool false) ∧ w = w') := is_of A _ 0 false w HL.out HX.out (by simp [sentL]) (by decide)
      generalize errV A (some 2) = ev at *
      clear h hx HX
      go_enter Tryz.func29, Tryz.ntmps29
      go_wp2_with (first
        | (go_at_call_of 51 (Value.pointer (some (A 1))); refine K0.out.mono ?_; rintro e w1 ⟨rfl, rfl⟩)
        | (go_at_call_of 51 (Value.pointer (some (A 2))); refine K1.out.mono ?_; rintro e w1 ⟨rfl, rfl⟩)
        | (go_at_call_of 51 (Value.pointer (some (A 3))); refine K2.out.mono ?_; rintro e w1 ⟨rfl, rfl⟩)
        | (go_at_call_of 51 (Value.pointer (some (A 4))); refine K3.out.mono ?_; rintro e w1 ⟨rfl, rfl⟩)
        | (go_at_call_of 51 (Value.pointer (some (A 5))); refine K4.out.mono ?_; rintro e w1 ⟨rfl, rfl⟩)
        | (go_at_call_of 51 (Value.pointer (some (A 0))); refine K5.out.mono ?_; rintro e w1 ⟨rfl, rfl⟩))
      go_ret
      exact ⟨rfl, rfl⟩
    · have K0 : Hid (Calls Tryz.prog 51 #[errV A (some 3), .iface 160 (.pointer (some (A 1)))] w fun e w' => e = .returned (.bool false) ∧ w = w') := is_of A _ 1 false w HL.out HX.out (by simp [sentL]) (by decide)
      have K1 : Hid (Calls Tryz.prog 51 #[errV A (some 3), .iface 160 (.pointer (some (A 2)))] w fun e w' => e = .returned (.bool false) ∧ w = w') := is_of A _ 2 false w HL.out HX.out (by simp [sentL]) (by decide)
      have K2 : Hid (Calls Tryz.prog 51 #[errV A (some 3), .iface 160 (.pointer (some (A 3)))] w fun e w' => e = .returned (.bool true) ∧ w = w') := is_of A _ 3 true w HL.out HX.out (by simp [sentL]) (by decide)
      have K3 : Hid (Calls Tryz.prog 51 #[errV A (some 3), .iface 160 (.pointer (some (A 4)))] w fun e w' => e = .returned (.bool false) ∧ w = w') := is_of A _ 4 false w HL.out HX.out (by simp [sentL]) (by decide)
      have K4 : Hid (Calls Tryz.prog 51 #[errV A (some 3), .iface 160 (.pointer (some (A 5)))] w fun e w' => e = .returned (.bool false) ∧ w = w') := is_of A _ 5 false w HL.out HX.out (by simp [sentL]) (by decide)
      have K5 : Hid (Calls Tryz.prog 51 #[errV A (some 3), .iface 160 (.pointer (some (A 0)))] w fun e w' => e = .returned (.bool false) ∧ w = w') := is_of A _ 0 false w HL.out HX.out (by simp [sentL]) (by decide)
      generalize errV A (some 3) = ev at *
      clear h hx HX
      go_enter Tryz.func29, Tryz.ntmps29
      go_wp2_with (first
        | (go_at_call_of 51 (Value.pointer (some (A 1))); refine K0.out.mono ?_; rintro e w1 ⟨rfl, rfl⟩)
        | (go_at_call_of 51 (Value.pointer (some (A 2))); refine K1.out.mono ?_; rintro e w1 ⟨rfl, rfl⟩)
        | (go_at_call_of 51 (Value.pointer (some (A 3))); refine K2.out.mono ?_; rintro e w1 ⟨rfl, rfl⟩)
        | (go_at_call_of 51 (Value.pointer (some (A 4))); refine K3.out.mono ?_; rintro e w1 ⟨rfl, rfl⟩)
        | (go_at_call_of 51 (Value.pointer (some (A 5))); refine K4.out.mono ?_; rintro e w1 ⟨rfl, rfl⟩)
        | (go_at_call_of 51 (Value.pointer (some (A 0))); refine K5.out.mono ?_; rintro e w1 ⟨rfl, rfl⟩))
      go_ret
      exact ⟨rfl, rfl⟩
    · have K0 : Hid (Calls Tryz.prog 51 #[errV A (some 4), .iface 160 (.pointer (some (A 1)))] w fun e w' => e = .returned (.bool false) ∧ w = w') := is_of A _ 1 false w HL.out HX.out (by simp [sentL]) (by decide)
      have K1 : Hid (Calls Tryz.prog 51 #[errV A (some 4), .iface 160 (.pointer (some (A 2)))] w fun e w' => e = .returned (.bool false) ∧ w = w') := is_of A _ 2 false w HL.out HX.out (by simp [sentL]) (by decide)
      have K2 : Hid (Calls Tryz.prog 51 #[errV A (some 4), .iface 160 (.pointer (some (A 3)))] w fun e w' => e = .returned (.bool false) ∧ w = w') := is_of A _ 3 false w HL.out HX.out (by simp [sentL]) (by decide)
      have K3 : Hid (Calls Tryz.prog 51 #[errV A (some 4), .iface 160 (.pointer (some (A 4)))] w fun e w' => e = .returned (.bool true) ∧ w = w') := is_of A _ 4 true w HL.out HX.out (by simp [sentL]) (by decide)
      have K4 : Hid (Calls Tryz.prog 51 #[errV A (some 4), .iface 160 (.pointer (some (A 5)))] w fun e w' => e = .returned (.bool false) ∧ w = w') := is_of A _ 5 false w HL.out HX.out (by simp [sentL]) (by decide)
      have K5 : Hid (Calls Tryz.prog 51 #[errV A (some 4), .iface 160 (.pointer (some (A 0)))] w fun e w' => e = .returned (.bool false) ∧ w = w') := is_of A _ 0 false w HL.out HX.out (by simp [sentL]) (by decide)
      generalize errV A (some 4) = ev at *
      clear h hx HX
      go_enter Tryz.func29, Tryz.ntmps29
      go_wp2_with (first
        | (go_at_call_of 51 (Value.pointer (some (A 1))); refine K0.out.mono ?_; rintro e w1 ⟨rfl, rfl⟩)
        | (go_at_call_of 51 (Value.pointer (some (A 2))); refine K1.out.mono ?_; rintro e w1 ⟨rfl, rfl⟩)
        | (go_at_call_of 51 (Value.pointer (some (A 3))); refine K2.out.mono ?_; rintro e w1 ⟨rfl, rfl⟩)
        | (go_at_call_of 51 (Value.pointer (some (A 4))); refine K3.out.mono ?_; rintro e w1 ⟨rfl, rfl⟩)
        | (go_at_call_of 51 (Value.pointer (some (A 5))); refine K4.out.mono ?_; rintro e w1 ⟨rfl, rfl⟩)
        | (go_at_call_of 51 (Value.pointer (some (A 0))); refine K5.out.mono ?_; rintro e w1 ⟨rfl, rfl⟩))
      go_ret
      exact ⟨rfl, rfl⟩
    · have K0 : Hid (Calls Tryz.prog 51 #[errV A (some 5), .iface 160 (.pointer (some (A 1)))] w fun e w' => e = .returned (.bool false) ∧ w = w') := is_of A _ 1 false w HL.out HX.out (by simp [sentL]) (by decide)
      have K1 : Hid (Calls Tryz.prog 51 #[errV A (some 5), .iface 160 (.pointer (some (A 2)))] w fun e w' => e = .returned (.bool false) ∧ w = w') := is_of A _ 2 false w HL.out HX.out (by simp [sentL]) (by decide)
      have K2 : Hid (Calls Tryz.prog 51 #[errV A (some 5), .iface 160 (.pointer (some (A 3)))] w fun e w' => e = .returned (.bool false) ∧ w = w') := is_of A _ 3 false w HL.out HX.out (by simp [sentL]) (by decide)
      have K3 : Hid (Calls Tryz.prog 51 #[errV A (some 5), .iface 160 (.pointer (some (A 4)))] w fun e w' => e = .returned (.bool false) ∧ w = w') := is_of A _ 4 false w HL.out HX.out (by simp [sentL]) (by decide)
      have K4 : Hid (Calls Tryz.prog 51 #[errV A (some 5), .iface 160 (.pointer (some (A 5)))] w fun e w' => e = .returned (.bool true) ∧ w = w') := is_of A _ 5 true w HL.out HX.out (by simp [sentL]) (by decide)
      have K5 : Hid (Calls Tryz.prog 51 #[errV A (some 5), .iface 160 (.pointer (some (A 0)))] w fun e w' => e = .returned (.bool false) ∧ w = w') := is_of A _ 0 false w HL.out HX.out (by simp [sentL]) (by decide)
      generalize errV A (some 5) = ev at *
      clear h hx HX
      go_enter Tryz.func29, Tryz.ntmps29
      go_wp2_with (first
        | (go_at_call_of 51 (Value.pointer (some (A 1))); refine K0.out.mono ?_; rintro e w1 ⟨rfl, rfl⟩)
        | (go_at_call_of 51 (Value.pointer (some (A 2))); refine K1.out.mono ?_; rintro e w1 ⟨rfl, rfl⟩)
        | (go_at_call_of 51 (Value.pointer (some (A 3))); refine K2.out.mono ?_; rintro e w1 ⟨rfl, rfl⟩)
        | (go_at_call_of 51 (Value.pointer (some (A 4))); refine K3.out.mono ?_; rintro e w1 ⟨rfl, rfl⟩)
        | (go_at_call_of 51 (Value.pointer (some (A 5))); refine K4.out.mono ?_; rintro e w1 ⟨rfl, rfl⟩)
        | (go_at_call_of 51 (Value.pointer (some (A 0))); refine K5.out.mono ?_; rintro e w1 ⟨rfl, rfl⟩))
      go_ret
      exact ⟨rfl, rfl⟩
    · have K0 : Hid (Calls Tryz.prog 51 #[errV A (some 0), .iface 160 (.pointer (some (A 1)))] w fun e w' => e = .returned (.bool false) ∧ w = w') := is_of A _ 1 false w HL.out HX.out (by simp [sentL]) (by decide)
      have K1 : Hid (Calls Tryz.prog 51 #[errV A (some 0), .iface 160 (.pointer (some (A 2)))] w fun e w' => e = .returned (.bool false) ∧ w = w') := is_of A _ 2 false w HL.out HX.out (by simp [sentL]) (by decide)
      have K2 : Hid (Calls Tryz.prog 51 #[errV A (some 0), .iface 160 (.pointer (some (A 3)))] w fun e w' => e = .returned (.bool false) ∧ w = w') := is_of A _ 3 false w HL.out HX.out (by simp [sentL]) (by decide)
      have K3 : Hid (Calls Tryz.prog 51 #[errV A (some 0), .iface 160 (.pointer (some (A 4)))] w fun e w' => e = .returned (.bool false) ∧ w = w') := is_of A _ 4 false w HL.out HX.out (by simp [sentL]) (by decide)
      have K4 : Hid (Calls Tryz.prog 51 #[errV A (some 0), .iface 160 (.pointer (some (A 5)))] w fun e w' => e = .returned (.bool false) ∧ w = w') := is_of A _ 5 false w HL.out HX.out (by simp [sentL]) (by decide)
      have K5 : Hid (Calls Tryz.prog 51 #[errV A (some 0), .iface 160 (.pointer (some (A 0)))] w fun e w' => e = .returned (.bool true) ∧ w = w') := is_of A _ 0 true w HL.out HX.out (by simp [sentL]) (by decide)
      generalize errV A (some 0) = ev at *
      clear h hx HX
      go_enter Tryz.func29, Tryz.ntmps29
      go_wp2_with (first
        | (go_at_call_of 51 (Value.pointer (some (A 1))); refine K0.out.mono ?_; rintro e w1 ⟨rfl, rfl⟩)
        | (go_at_call_of 51 (Value.pointer (some (A 2))); refine K1.out.mono ?_; rintro e w1 ⟨rfl, rfl⟩)
        | (go_at_call_of 51 (Value.pointer (some (A 3))); refine K2.out.mono ?_; rintro e w1 ⟨rfl, rfl⟩)
        | (go_at_call_of 51 (Value.pointer (some (A 4))); refine K3.out.mono ?_; rintro e w1 ⟨rfl, rfl⟩)
        | (go_at_call_of 51 (Value.pointer (some (A 5))); refine K4.out.mono ?_; rintro e w1 ⟨rfl, rfl⟩)
        | (go_at_call_of 51 (Value.pointer (some (A 0))); refine K5.out.mono ?_; rintro e w1 ⟨rfl, rfl⟩))
      go_ret
      exact ⟨rfl, rfl⟩
end Go.Proofs.YtnfidmjplhmblaaGreatDoor.Sent
