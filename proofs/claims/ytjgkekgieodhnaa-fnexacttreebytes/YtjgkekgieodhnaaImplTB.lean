/- The program's TreeBytes. -/
import Derived.Test.YtjgkekgieodhnaaTreeTexts
import Derived.Test.YtjgkekgieodhnaaImplTree2
import Derived.Test.YtjgkekgieodhnaaImplFB
import Derived.Test.YtjgkekgieodhnaaAppMany
import Derived.Test.YtjgkekgieodhnaaCutCall
namespace Go.Proofs.Ytjgkekgieodhnaa.Tre
open Go.RowKit Go.Proofs.Ytjgkekgieodhnaa.Mem Go.Proofs.Ytjgkekgieodhnaa.Gf Go.Proofs.Ytjgkekgieodhnaa.Harn Go.Proofs.Ytjgkekgieodhnaa.Mark Go.Proofs.Ytjgkekgieodhnaa.Frm

theorem filesT_len : ∀ l : List Fl, (filesT l).length = l.length * 3
  | [] => rfl
  | f :: l => by
    have ih := filesT_len l
    have e : filesT (f :: l) = fileT f ++ filesT l := by simp [filesT]
    rw [e, List.length_append, ih]; simp [fileT]; omega
theorem step_three {w : World} {ops : Array Oper} {o : Oper} {a : Act} {K : Act → World → Prop} {Q : Exit → Act → World → Prop} {E : Prop} (hgd : o.guard = none) (s x : Operand)
    (ho : o.op = .call { callee := .builtin .append, args := #[s, x], argTypes := #[50, 50] }) (base b : Nat) (v : Value) (ls : List ByteArray) (t1 t2 t3 : ByteArray) (hs : a.eval s = v) (hx : a.eval x = .slice (some ⟨b, 0, none⟩) 3 3)
    (h : OwnS w base v ls) (hbase : base ≤ w.heap.size) (h0 : w.cell? ⟨b, 0, none⟩ = some (.string t1)) (h1 : w.cell? ⟨b, 1, none⟩ = some (.string t2)) (h2 : w.cell? ⟨b, 2, none⟩ = some (.string t3)) (hn : ls.length ≤ 1000000)
    (hK : ∀ g c w', OwnS w' base (.slice (some ⟨g, 0, none⟩) (ls.length + 3) c) (ls ++ [t1, t2, t3]) → w.grownBy w' v.ownBlock → K (a.put o.dst (.slice (some ⟨g, 0, none⟩) (ls.length + 3) c)) w') :
    if Region.wanted o (yielded ops a.tmps) = true then Oper.wp Try.prog o a w K Q else E := by
  obtain ⟨i, hi0, hz0, hz1, hz2⟩ := info_parts infoStr
  obtain ⟨g', cap, w', hr, hown, hgr, hat, hlt⟩ := run_append_lies (P := Try.prog) w 50 o.type base 9 i (.string ByteArray.empty) 1 16 underStrs hi0 hz0 hz1 hz2 rfl (by omega) v (ls.map Value.string).length (ls.map Value.string) h ⟨b, 0, none⟩ 3 3 [.string t1, .string t2, .string t3] rfl (fun j u hu => by
    rw [addr_add0]
    rcases j with _ | _ | _ | j
    · simp at hu; rw [h0, hu]
    · simp at hu; rw [h1, hu]
    · simp at hu; rw [h2, hu]
    · simp at hu) (by simp [Value.oneCell']) (by omega) (by unfold maxLen; simp; omega) (by simp; omega) hbase w.heap.size rfl
  have hl : (ls.map Value.string).length = ls.length := by simp
  rw [hl] at hr hown
  exact step_app hgd s x _ ho _ _ _ w' hs hx hr (hK g' cap w' (by unfold OwnS OwnV; rw [List.map_append]; simpa using hown) hgr)
theorem bAl {B : Nat} {w W : World} (h : Below B w W) (hB : B ≤ W.heap.size) (o : Obj) : Below B w (W.alloc o) := h.alloc hB o
end Go.Proofs.Ytjgkekgieodhnaa.Tre
