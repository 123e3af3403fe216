/- What the program's mix of bytes answers. -/
import Derived.Test.YtkanhjafchiikaaTextsD
import Derived.Test.YtkanhjafchiikaaTextsB
namespace Go.Proofs.Ytkanhjafchiikaa.Gf
open Go.RowKit Go.Proofs.Ytkanhjafchiikaa.Mem

theorem wrapI {a : Nat} (h : a < 256) : IntKind.i64.wrap (a : Int) = a := by rw [IntKind.wrap_i64]; omega
theorem wrapB {a : Nat} (h : a < 256) : IntKind.u8.wrap (a : Int) = a := by rw [IntKind.wrap_u8']; omega
theorem xorB {a b : Nat} (ha : a < 256) (hb : b < 256) : bits .xor .u8 (a : Int) (b : Int) = ((a ^^^ b : Nat) : Int) := u8_xor_nat a b ha hb

set_option maxRecDepth 100000 in
set_option maxHeartbeats 1000000 in
theorem mixB_any (vp : Value) (ps : List (List Nat)) (L bx bt : Nat) (xs : List Nat) (t : Nat) (w : World) (hp : Lists .u8 w vp ps) (h1 : 0 < ps.length) (hlen : ∀ p ∈ ps, p.length = L) (hel : ∀ p ∈ ps, Els p) (hcl : Clos w bx bt xs t) (hx : Els xs) (ht : t < 256) (hxl : ps.length ≤ xs.length) (hn : xs.length ≤ 1000) (hL : L ≤ 1000) :
    Calls Try.prog 32 #[vp, .func (.func 58) #[] #[.pointer (some ⟨bx, 0, none⟩), .pointer (some ⟨bt, 0, none⟩)]] w fun e w' => e = .returned (.slice (some ⟨w.heap.size, 0, none⟩) L L) ∧ HasRow w' w.heap.size (ncells .u8 (mixed (weight xs t) ps L)) 5 ∧ Below w.heap.size w w' := by
  obtain ⟨a, cap, rfl, hc⟩ := hp
  have HC : Hid (∀ j (h : j < ps.length), ∃ b o u, a = some ⟨b, o, none⟩ ∧ w.cell? ⟨b, o + j, none⟩ = some u ∧ NumsK .u8 w u ps[j]) := hc
  have HLEN : Hid (∀ j (h : j < ps.length), ps[j].length = L) := fun j h => hlen _ (List.getElem_mem h)
  have HEL : Hid (∀ j (h : j < ps.length), Els ps[j]) := fun j h => hel _ (List.getElem_mem h)
  have HCO : Hid (∀ W i, Below w.heap.size w W → i < ps.length → Calls Try.prog 58 #[.int .i64 (i : Nat), .pointer (some ⟨bx, 0, none⟩), .pointer (some ⟨bt, 0, none⟩)] W fun e w' => e = .returned (.int .i64 (weight xs t i : Nat)) ∧ ∃ n, w' = W.drewN n) := fun W i hW hi => count_any i bx bt xs t W (hcl.below hW) hx ht (by omega) hn
  have HWL : Hid (∀ i, weight xs t i < 256) := weight_lt xs t
  generalize weight xs t = wf at *
  obtain ⟨b, o, u, rfl, d0, hu0⟩ := hc 0 h1
  obtain ⟨au, cu, rfl⟩ := hu0.shape
  rw [hlen _ (List.getElem_mem h1), Nat.add_zero] at d0
  obtain ⟨W1, hmk, hr1, hb1, hz1⟩ := Mem.make_bytes (P := Try.prog) 22 5 Join.under Join.info8 L (by omega) w
  have HR1 : Hid (HasRow W1 w.heap.size (ncells .u8 (mixRow wf ps L 0 0)) 5) := by
    have := hr1
    rw [← mixRow_start wf ps L .u8] at this
    exact this
  have HB1 : Hid (Below w.heap.size w W1) := hb1
  have p0 : (0 : Int) < (ps.length : Int) := by omega
  clear hc hlen hel hcl hx hr1 hb1 hu0
  go_enter Try.func32, Try.ntmps32
  go_wp2
  go_loopw [18] (fun i wr => ∃ k : Nat, k ≤ ps.length ∧ i = .int .i64 k ∧ HasRow wr w.heap.size (ncells .u8 (mixRow wf ps L k 0)) 5 ∧ Below w.heap.size w wr) (fun i _ => ps.length - (intOf i).toNat)
  case atStart => exact ⟨0, by omega, rfl, HR1.out, HB1.out⟩
  case round =>
    obtain ⟨k, hk, rfl, hrow, hbel⟩ := hrel
    have HROW : Hid (HasRow wr w.heap.size (ncells .u8 (mixRow wf ps L k 0)) 5) := hrow
    have HBEL : Hid (Below w.heap.size w wr) := hbel
    clear HR1 HB1 hrow
    by_cases hlt : k < ps.length
    · obtain ⟨b', o', u, hbo, d1, hu⟩ := HC.out k hlt
      injection hbo with hbo
      injection hbo with e1 e2 _
      subst e1 e2
      have c1 : wr.cell? ⟨b, o + k, none⟩ = _ := (hbel.cell (World.block_lt_of_cell? w _ d1)).trans d1
      obtain ⟨ak, ck, rfl, hck⟩ := hu
      have hlk := HLEN.out k hlt
      have HEK : Hid (Els ps[k]) := HEL.out k hlt
      have HCK : Hid (∀ j (h : j < ps[k].length), ∃ b o, ak = some ⟨b, o, none⟩ ∧ w.cell? ⟨b, o + j, none⟩ = some (.int .u8 (ps[k][j] : Nat))) := hck
      have HSU : Hid (∀ m (hm : m < ps[k].length), mixAt wf ps m (k + 1) = mixAt wf ps m k ^^^ mul (wf k) ps[k][m]) := fun m hm => mixAt_succ wf ps m k hlt hm
      have HML : Hid (∀ m, mixAt wf ps m k < 256) := fun m => mixAt_lt _ _ _ _ HWL.out
      have hwk := HWL.out k
      have p1 : (k : Int) < (ps.length : Int) := by omega
      clear hck d1 hbel
      rw [hlk] at c1
      generalize ps[k] = pk at *
      go_wp2_with (go_at_call 58; refine (HCO.out _ k HBEL.out hlt).mono ?_; rintro e w' ⟨rfl, n0, rfl⟩)
      go_loopw [28] (fun i wq => ∃ m : Nat, m ≤ L ∧ i = .int .i64 m ∧ HasRow wq w.heap.size (ncells .u8 (mixRow wf ps L k m)) 5 ∧ Below w.heap.size w wq) (fun i _ => L - (intOf i).toNat)
      case atStart => exact ⟨0, by omega, rfl, HROW.out, Sha.bel_drewN HBEL.out _⟩
      case round =>
        obtain ⟨m, hm, rfl, hrow, hbel⟩ := hrel
        clear HROW HBEL c1
        by_cases hlm : m < L
        · obtain ⟨b3, o3, rfl, d3⟩ := HCK.out m (by omega)
          have c3 : wr.cell? ⟨b3, o3 + m, none⟩ = _ := (hbel.cell (World.block_lt_of_cell? w _ d3)).trans d3
          have c4 := Mem.cell_of_row hrow m
          rw [mixRow_at wf ps L k m .u8 hlm] at c4
          have f4 := Mem.frozen_of_row hrow m
          have hgl := World.block_lt_of_cell? wr _ c4
          have HSM : Hid (mixAt wf ps m (k + 1) = mixAt wf ps m k ^^^ mul (wf k) pk[m]) := HSU.out m (by omega)
          have hy : pk[m] < 256 := HEK.out.at (by omega)
          have l2 := HML.out m
          have HST : Hid (∀ W : World, HasRow W w.heap.size (ncells .u8 (mixRow wf ps L k m)) 5 → HasRow (W.setCell ⟨w.heap.size, m, none⟩ (.int .u8 ((mixAt wf ps m (k + 1) : Nat) : Int))) w.heap.size (ncells .u8 (mixRow wf ps L k (m + 1))) 5) := fun W h => by
            rw [← mixRow_set]; exact row_set h _ _
          have HROW : Hid (HasRow wr w.heap.size (ncells .u8 (mixRow wf ps L k m)) 5) := hrow
          have HBEL : Hid (Below w.heap.size w wr) := hbel
          have HMC : Hid (mul (wf k) pk[m] = mul pk[m] (wf k)) := mul_comm hwk hy
          have hne : ¬ b3 = w.heap.size := by have := World.block_lt_of_cell? w _ d3; simp only at this; omega
          generalize hyk : pk[m] = y at *
          generalize hS : mixAt wf ps m k = sk at *
          generalize hwf : wf k = wk at *
          have HYK : Hid (pk[m] = y) := hyk
          clear hyk hS hwf
          have l3 : mul y wk < 256 := mul_lt hy
          have x1 := xorB l2 l3
          have wy := wrapI hy
          have wm := wrapB l3
          have p2 : (m : Int) < (L : Int) := by omega
          have p3 : (m : Int) < (pk.length : Int) := by omega
          clear d3 hrow hbel
          go_wp2_with fail
          go_region_with (go_at_call 57; refine (mulP_any _ _ _ (by assumption) (by assumption)).mono ?_; rintro e w' ⟨rfl, rfl⟩)
          all_goals
            go_wp2
            go_roundw
            case rel => exact ⟨m + 1, by omega, by go_num, by have := HST.out _ HROW.out; rw [HSM.out, HMC.out] at this; exact this, Sha.bel_drewN ((HBEL.out).setCell (p := ⟨w.heap.size, m, none⟩) (Nat.le_refl _) _) 1⟩
            case measure => simp [intOf]; omega
        · obtain rfl : m = L := by omega
          have HROW : Hid (HasRow wr w.heap.size (ncells .u8 (mixRow wf ps m (k + 1) 0)) 5) := by rw [← mixRow_next]; exact hrow
          have HBEL : Hid (Below w.heap.size w wr) := hbel
          clear hrow hbel
          go_wp2
          go_roundw
          case rel => exact ⟨k + 1, by omega, by go_num, HROW.out, HBEL.out⟩
          case measure => simp [intOf]; omega
    · obtain rfl : k = ps.length := by omega
      have HR : Hid (HasRow wr w.heap.size (ncells .u8 (mixed wf ps L)) 5) := by rw [← mixRow_end]; exact HROW.out
      go_wp2
      go_ret
      exact ⟨rfl, HR.out, HBEL.out⟩
end Go.Proofs.Ytkanhjafchiikaa.Gf
