/- The law on TreePut. -/
import Derived.Test.YtfpgobkedfhakaaImplTreePut
import Derived.Test.YtfpgobkedfhakaaHarnFile3
import Derived.Test.YtfpgobkedfhakaaLawTreeRight
import Derived.Test.YtfpgobkedfhakaaLawFileOf
import Derived.Deep.RegionHeld3
import Derived.Test.YtfpgobkedfhakaaCutCall
namespace Go.Proofs.Ytfpgobkedfhakaa.Tre
open Go.RowKit Go.Proofs.Ytfpgobkedfhakaa.Mem Go.Proofs.Ytfpgobkedfhakaa.Gf Go.Proofs.Ytfpgobkedfhakaa.Harn Go.Proofs.Ytfpgobkedfhakaa.Mark

theorem slice_form {W : World} {v : Value} {l : List Fl} (h : Mk W v l) : ∃ a n c, v = .slice a n c := by
  rcases h with ⟨g, c, h, _⟩ | ⟨h, _⟩
  · exact ⟨_, _, _, h⟩
  · exact ⟨_, _, _, h⟩
theorem FilesAt.same {W W' : World} {g : Nat} {l : List Fl} (h : FilesAt W g 0 l) (hb : g < W.heap.size → W'.heap[g]? = W.heap[g]?) : FilesAt W' g 0 l := fun j hj => by
  have h1 := h j hj
  have hg := World.block_lt_of_cell? W _ h1.1.1
  unfold World.cell? World.frozen? at *
  dsimp only at *
  rw [hb hg]
  exact h1
theorem Mk.apart {W W' : World} {v : Value} {l : List Fl} {r : Nat} (h : Mk W v l) (hg : W.grownBy W' (some r)) (hne : v.ownBlock ≠ some r) : Mk W' v l := by
  rcases h with ⟨g, c, rfl, h⟩ | h
  · refine .inl ⟨g, c, rfl, h.same fun hl => hg.block g hl ?_⟩
    intro e
    exact hne e
  · exact .inr h
theorem putTO_le (l : List Fl) (f : Fl) : (putTO l f).1.length ≤ 7 := by
  unfold putTO putO
  split
  · split
    · simp
    · split
      · rename_i h; dsimp only; omega
      · simp
  · simp
/-- what stands through the law -/
structure LP (w W : World) (u : Value) (f : Fl) : Prop where
  bel : Below w.heap.size w W
  size : w.heap.size + 2 ≤ W.heap.size
  a : HasRow W w.heap.size [u] 24
  b : HasRow W (w.heap.size + 1) [.string f.p, .int .i64 f.m, .string f.d] 26
theorem LP.below {w W W' : World} {u : Value} {f : Fl} (h : LP w W u f) (hb : Below W.heap.size W W') : LP w W' u f :=
  ⟨bstep h.bel hb, Nat.le_trans h.size hb.size, row_keep h.a hb, row_keep h.b hb⟩
theorem LP.drew {w W : World} {u : Value} {f : Fl} (h : LP w W u f) : LP w W.drew u f := h.below ((Below.refl _ _).drew)
theorem LP.alloc {w W : World} {u : Value} {f : Fl} (h : LP w W u f) (o : Obj) : LP w (W.alloc o) u f := h.below (bnew W o)
theorem LP.set {w W : World} {u : Value} {f : Fl} (h : LP w W u f) {cb : Nat} (hc : w.heap.size + 2 ≤ cb) (k : Nat) (v : Value) : LP w (W.setCell ⟨cb, k, none⟩ v) u f :=
  ⟨h.bel.setCell (p := ⟨cb, k, none⟩) (by simp; omega) v, by simpa using h.size, Sha.row_other h.a _ _ (by simp; omega), Sha.row_other h.b _ _ (by simp; omega)⟩
theorem LP.cells2 {w W : World} {u : Value} {f : Fl} (h : LP w W u f) {cb : Nat} (hc : w.heap.size + 2 ≤ cb) (v0 v1 : Value) :
    ((W.setCell ⟨cb, 0, none⟩ v0).setCell ⟨cb, 1, none⟩ v1).cell? ⟨w.heap.size, 0, none⟩ = some u ∧ ((W.setCell ⟨cb, 0, none⟩ v0).setCell ⟨cb, 1, none⟩ v1).cell? ⟨w.heap.size + 1, 0, none⟩ = some (.string f.p) ∧ ((W.setCell ⟨cb, 0, none⟩ v0).setCell ⟨cb, 1, none⟩ v1).cell? ⟨w.heap.size + 1, 1, none⟩ = some (.int .i64 f.m) ∧ ((W.setCell ⟨cb, 0, none⟩ v0).setCell ⟨cb, 1, none⟩ v1).cell? ⟨w.heap.size + 1, 2, none⟩ = some (.string f.d) := by
  have h2 := (h.set hc 0 v0).set hc 1 v1
  exact ⟨Mem.cell_of_row h2.a 0, Mem.cell_of_row h2.b 0, Mem.cell_of_row h2.b 1, Mem.cell_of_row h2.b 2⟩
/-- an answer in a box -/
def Box (W : World) (p : Value) (lo : Nat) (c : Int) (L : List Fl) : Prop := ∃ cb a n k, p = .pointer (some ⟨cb, 0, none⟩) ∧ lo ≤ cb ∧ HasRow W cb [.slice a n k, .int .i64 c] 33 ∧ Mk W (.slice a n k) L
theorem Box.below {W W' : World} {p : Value} {lo : Nat} {c : Int} {L : List Fl} (h : Box W p lo c L) (hb : Below W.heap.size W W') : Box W' p lo c L := by
  obtain ⟨cb, a, n, k, h1, h2, h3, h4⟩ := h
  exact ⟨cb, a, n, k, h1, h2, row_keep h3 hb, h4.below hb⟩
theorem box_new {W : World} {a : Option Addr} {n k lo : Nat} {c : Int} {L : List Fl} (h : Mk W (.slice a n k) L) (hlo : lo ≤ W.heap.size) : Box (W.alloc (.cells #[.slice a n k, .int .i64 c] 33)) (.pointer (some ⟨W.heap.size, 0, none⟩)) lo c L :=
  ⟨_, a, n, k, rfl, hlo, Sha.row_new W [.slice a n k, .int .i64 c] _, h.below (bnew W _)⟩
theorem box_set {W : World} {a : Option Addr} {n k lo cb : Nat} {c : Int} {L : List Fl} (h : Mk W (.slice a n k) L) (hlo : lo ≤ cb) (hr : HasRow W cb [.slice none 0 0, .int .i64 0] 33) (hne : (Value.slice a n k).ownBlock ≠ some cb) :
    Box ((W.setCell ⟨cb, 0, none⟩ (.slice a n k)).setCell ⟨cb, 1, none⟩ (.int .i64 c)) (.pointer (some ⟨cb, 0, none⟩)) lo c L := by
  refine ⟨cb, a, n, k, rfl, hlo, row_set (row_set hr 0 _) 1 _, ?_⟩
  rcases h with ⟨g, c, h, h2⟩ | h
  · injection h with e1 e2 e3
    subst e1 e2 e3
    have hg : g ≠ cb := fun e => hne (by rw [e]; rfl)
    exact .inl ⟨g, _, rfl, (h2.other ⟨cb, 0, none⟩ _ hg).other ⟨cb, 1, none⟩ _ hg⟩
  · exact .inr h
theorem row_stay {W W' : World} {g : Nat} {r : Option Nat} {cs : List Value} {e : TypeId} (h : HasRow W g cs e) (hg : W.grownBy W' r) (hn : some g ≠ r) : HasRow W' g cs e := (hg.block g (row_lt h) hn).trans h
/-- an answer in a box, its list in a row of its own -/
def BoxI (W : World) (p : Value) (lo : Nat) (c : Int) (L : List Fl) : Prop := ∃ eb a n k, p = .pointer (some ⟨eb, 0, none⟩) ∧ lo ≤ eb ∧ HasRow W eb [.slice a n k, .int .i64 c] 33 ∧ Mk W (.slice a n k) L ∧ ∀ q, (Value.slice a n k).ownBlock = some q → lo ≤ q ∧ q < W.heap.size ∧ q ≠ eb
theorem boxI_new {W : World} {a : Option Addr} {n k lo : Nat} {c : Int} {L : List Fl} (h : Mk W (.slice a n k) L) (hlo : lo ≤ W.heap.size) (hq : ∀ q, (Value.slice a n k).ownBlock = some q → lo ≤ q ∧ q < W.heap.size) : BoxI (W.alloc (.cells #[.slice a n k, .int .i64 c] 33)) (.pointer (some ⟨W.heap.size, 0, none⟩)) lo c L :=
  ⟨_, a, n, k, rfl, hlo, Sha.row_new W [.slice a n k, .int .i64 c] _, h.below (bnew W _), fun q e => ⟨(hq q e).1, by have := (hq q e).2; simp; omega, by have := (hq q e).2; omega⟩⟩
theorem boxI_set {W : World} {a : Option Addr} {n k lo cb : Nat} {c : Int} {L : List Fl} (h : Mk W (.slice a n k) L) (hlo : lo ≤ cb) (hr : HasRow W cb [.slice none 0 0, .int .i64 0] 33) (hq : ∀ q, (Value.slice a n k).ownBlock = some q → lo ≤ q ∧ q < W.heap.size ∧ q ≠ cb) :
    BoxI ((W.setCell ⟨cb, 0, none⟩ (.slice a n k)).setCell ⟨cb, 1, none⟩ (.int .i64 c)) (.pointer (some ⟨cb, 0, none⟩)) lo c L := by
  refine ⟨cb, a, n, k, rfl, hlo, row_set (row_set hr 0 _) 1 _, ?_, fun q e => by simpa using hq q e⟩
  rcases h with ⟨g, c, h, h2⟩ | h
  · injection h with e1 e2 e3
    subst e1 e2 e3
    have hg : g ≠ cb := (hq g rfl).2.2
    exact .inl ⟨g, _, rfl, (h2.other ⟨cb, 0, none⟩ _ hg).other ⟨cb, 1, none⟩ _ hg⟩
  · exact .inr h
theorem cells2D {w W : World} {u x : Value} {f : Fl} {d cb : Nat} {T : TypeId} (hD : HasRow W d [x] T) (h : LP w W u f) (hc : w.heap.size + 2 ≤ cb) (hd : d ≠ cb) (v0 v1 : Value) :
    ((W.setCell ⟨cb, 0, none⟩ v0).setCell ⟨cb, 1, none⟩ v1).cell? ⟨d, 0, none⟩ = some x ∧ ((W.setCell ⟨cb, 0, none⟩ v0).setCell ⟨cb, 1, none⟩ v1).cell? ⟨w.heap.size, 0, none⟩ = some u ∧ ((W.setCell ⟨cb, 0, none⟩ v0).setCell ⟨cb, 1, none⟩ v1).cell? ⟨w.heap.size + 1, 0, none⟩ = some (.string f.p) ∧ ((W.setCell ⟨cb, 0, none⟩ v0).setCell ⟨cb, 1, none⟩ v1).cell? ⟨w.heap.size + 1, 1, none⟩ = some (.int .i64 f.m) ∧ ((W.setCell ⟨cb, 0, none⟩ v0).setCell ⟨cb, 1, none⟩ v1).cell? ⟨w.heap.size + 1, 2, none⟩ = some (.string f.d) :=
  ⟨Mem.cell_of_row (Sha.row_other (Sha.row_other hD ⟨cb, 0, none⟩ v0 hd) ⟨cb, 1, none⟩ v1 hd) 0, h.cells2 hc v0 v1⟩
set_option maxRecDepth 100000 in
set_option maxHeartbeats 2000000 in
theorem treePut_law (u : Value) (l : List Fl) (f : Fl) (w : World) (h : Files w u l) (hn : l.length ≤ maxLen) (hz : ∀ y ∈ l, okF y) (hf : okF f) :
    Calls Try.prog 3 #[.agg #[u], f.val] w fun e w' => e = .returned (.bool true) ∧ Below w.heap.size w w' := by
  have KZ : Hid (∀ W, Files W u l → Calls Try.prog 9 #[.agg #[u], .int .i64 1048576] W fun e w' => Below W.heap.size W w' ∧ ((∃ r : Nat, e = .returned (.int .i64 (r : Int)) ∧ r + l.length + wtF l = 1048576) ∨ (e = .returned (.int .i64 (-1)) ∧ 1048576 < l.length + wtF l))) := fun W hW => szTree_any u l 1048576 W hW hn (by omega) (okF_sizes hz)
  have KY : Hid (∀ r : Nat, r ≤ 1048576 → ∀ W, Calls Try.prog 10 #[f.val, .int .i64 (r : Int)] W fun e w' => Below W.heap.size W w' ∧ ((∃ r2 : Nat, e = .returned (.int .i64 (r2 : Int))) ∨ e = .returned (.int .i64 (-1)))) := fun r hr W => by
    by_cases hle : f.p.size + f.d.size ≤ r
    · exact (szFile_in f r W hle hr).mono fun e w' hw => ⟨hw.2, .inl ⟨_, hw.1⟩⟩
    · exact (szFile_out f r W (by omega) hf.1 hf.2.1 hr).mono fun e w' hw => ⟨hw.2, .inr hw.1⟩
  have KT : Hid (l.length ≤ 1100000 → ∀ W, Files W u l → Calls Try.prog 12 #[.agg #[u]] W fun e w' => ∃ g, e = .returned (.agg #[.slice (some ⟨g, 0, none⟩) l.length l.length]) ∧ FilesAt w' g 0 l ∧ W.heap.size ≤ g ∧ g < w'.heap.size ∧ Below W.heap.size W w') := fun h W hW => toTree_any u l W hW h
  have KF := hidT (fun W => toFile1 f W)
  have KS : Hid (∀ g W, FilesAt W g 0 l → Calls Try.prog 11 #[.agg #[.slice (some ⟨g, 0, none⟩) l.length l.length], f.val] W fun e w' => ∃ v, e = .returned (.agg #[v, .int .i64 (putTO l f).2]) ∧ Mk w' v (putTO l f).1 ∧ (∀ k, v.ownBlock = some k → W.heap.size ≤ k) ∧ Below W.heap.size W w') := fun g W hW => specTP_any g l f W hW hn (okF_sizes hz) hf.2.1
  have KI : Hid (∀ g W, FilesAt W g 0 l → Calls Try.prog 14 #[.agg #[.slice (some ⟨g, 0, none⟩) l.length l.length], f.val] W fun e w' => ∃ v, e = .returned (.agg #[v, .int .i64 (putTO l f).2]) ∧ Mk w' v (putTO l f).1 ∧ (∀ k, v.ownBlock = some k → W.heap.size ≤ k ∧ k < w'.heap.size) ∧ Below W.heap.size W w') := fun g W hW => implTP_any g l f W hW hn (okF_sizes hz) hf.2.1
  have KE : Hid (l.length ≤ 1100000 → ∀ v1 v2 W, Files W v1 l → Files W v2 l → Calls Try.prog 16 #[.agg #[v1], .agg #[v2]] W fun e w' => e = .returned (.bool true) ∧ Below W.heap.size W w') := fun h v1 v2 W h1 h2 => eqTree_any v1 v2 l W h1 h2 h
  have HF := hidT h
  have hl := putTO_le l f
  generalize (putTO l f).2 = c at *
  generalize (putTO l f).1 = L at *
  have HLE : Hid (L.length ≤ 1100000) := by show _ ≤ _; omega
  obtain ⟨T, hT, hT0⟩ : ∃ T : Int, T = ((1 + 3 * L.length : Nat) : Int) ∧ 0 ≤ T := ⟨_, rfl, by omega⟩
  have HTT := hidT hT
  obtain ⟨fp, fm, fd⟩ := f
  unfold Fl.val at *
  dsimp only at *
  have hP0 : LP w ((w.alloc (.cells #[u] 24)).alloc (.cells #[.string fp, .int .i64 fm, .string fd] 26)) u ⟨fp, fm, fd⟩ := ⟨((Below.refl _ _).alloc (Nat.le_refl _) _).alloc (by simp) _, by simp, Sha.row_alloc (Sha.row_new w [u] _) _, Sha.row_new_at (w.alloc (.cells #[u] 24)) [.string fp, .int .i64 fm, .string fd] _ _ (by simp)⟩
  clear h hn hz hf hl hT
  go_enter Try.func3, Try.ntmps3
  obtain ⟨W0, hW0⟩ : ∃ W0, W0 = (w.alloc (.cells #[u] 24)).alloc (.cells #[.string fp, .int .i64 fm, .string fd] 26) := ⟨_, rfl⟩
  go_wp2_with fail
  rw [← hW0] at hP0 ⊢
  clear hW0
  refine (KZ.out _ (Files.below HF.out hP0.bel)).mono ?_
  rintro e w1 ⟨hb1, hr⟩
  have HP1 := hidT (hP0.below hb1)
  obtain ⟨a0, b0, b1, b2⟩ : w1.cell? ⟨w.heap.size, 0, none⟩ = some u ∧ w1.cell? ⟨w.heap.size + 1, 0, none⟩ = some (.string fp) ∧ w1.cell? ⟨w.heap.size + 1, 1, none⟩ = some (.int .i64 fm) ∧ w1.cell? ⟨w.heap.size + 1, 2, none⟩ = some (.string fd) := ⟨Mem.cell_of_row HP1.out.a 0, Mem.cell_of_row HP1.out.b 0, Mem.cell_of_row HP1.out.b 1, Mem.cell_of_row HP1.out.b 2⟩
  clear hb1 hP0
  rcases hr with ⟨r, rfl, h2⟩ | ⟨rfl, h2⟩
  · have KT' := hidT (KT.out (by omega))
    have KE' := hidT (KE.out (by omega))
    have KY' := hidT (KY.out r (by omega))
    have HLL : Hid (l.length ≤ 1100000) := by show _ ≤ _; omega
    clear KT KE KY KZ h2
    go_wp2_with fail
    refine (KY'.out _).mono ?_
    rintro e w2 ⟨hb2, hr2⟩
    have HP2 := hidT (HP1.out.below hb2)
    clear hb2 a0 b0 b1 b2 HP1
    obtain ⟨a0, b0, b1, b2⟩ : w2.cell? ⟨w.heap.size, 0, none⟩ = some u ∧ w2.cell? ⟨w.heap.size + 1, 0, none⟩ = some (.string fp) ∧ w2.cell? ⟨w.heap.size + 1, 1, none⟩ = some (.int .i64 fm) ∧ w2.cell? ⟨w.heap.size + 1, 2, none⟩ = some (.string fd) := ⟨Mem.cell_of_row HP2.out.a 0, Mem.cell_of_row HP2.out.b 0, Mem.cell_of_row HP2.out.b 1, Mem.cell_of_row HP2.out.b 2⟩
    rcases hr2 with ⟨r2, rfl⟩ | rfl
    · go_wp2_with fail
      have hs2 := HP2.out.size
      go_cut [6] (fun p wx => LP w wx u ⟨fp, fm, fd⟩ ∧ Box wx p (w.heap.size + 2) c L)
      case first =>
        go_region_held3 (fun W => W.cell? ⟨w.heap.size, 0, none⟩ = some u ∧ W.cell? ⟨w.heap.size + 1, 0, none⟩ = some (.string fp) ∧ W.cell? ⟨w.heap.size + 1, 1, none⟩ = some (.int .i64 fm) ∧ W.cell? ⟨w.heap.size + 1, 2, none⟩ = some (.string fd))
          (first
            | go_keep
            | (exact kQ)
            | (exact LP.cells2 HP5.out (by omega) _ _))
          (first
            | (go_at_call 12; refine (KT'.out _ (Files.below HF.out (by first | exact HP2.out.drew.bel | exact (HP2.out.drew.alloc _).bel))).mono ?_; rintro e w3 ⟨g3, rfl, hf3, hg3, hg3', hb3⟩; have HP3 := hidT (LP.below (by first | exact HP2.out.drew | exact HP2.out.drew.alloc _) hb3); have hs3 := HP3.out.size; (first | (have hy3 : w2.heap.size + 1 ≤ w3.heap.size := by have := hb3.size; simpa using this) | (have hy3 : w2.heap.size ≤ w3.heap.size := hb3.size)); (try have HX3 : Hid (HasRow w3 w2.heap.size [.slice none 0 0, .int .i64 0] 33) := row_keep (Sha.row_new w2.drew [.slice none 0 0, .int .i64 0] 33) hb3); have HG3 := hidT hf3; have kQ : w3.cell? ⟨w.heap.size, 0, none⟩ = some u ∧ w3.cell? ⟨w.heap.size + 1, 0, none⟩ = some (.string fp) ∧ w3.cell? ⟨w.heap.size + 1, 1, none⟩ = some (.int .i64 fm) ∧ w3.cell? ⟨w.heap.size + 1, 2, none⟩ = some (.string fd) := ⟨Mem.cell_of_row HP3.out.a 0, Mem.cell_of_row HP3.out.b 0, Mem.cell_of_row HP3.out.b 1, Mem.cell_of_row HP3.out.b 2⟩; clear hf3 hg3 hg3' hb3)
            | (go_at_call 13; refine (KF.out _).mono ?_; rintro e w4 ⟨rfl, hb4⟩; have HP4 := hidT (LP.below (by first | exact HP3.out | exact HP3.out.alloc _) hb4); (first | (have hy4 : w3.heap.size + 1 ≤ w4.heap.size := by have := hb4.size; simpa using this) | (have hy4 : w3.heap.size ≤ w4.heap.size := hb4.size)); have hs4 := HP4.out.size; (try have HX4 := hidT (row_keep HX3.out hb4)); (try have HX4 := hidT (row_keep (Sha.row_new w3 [.slice none 0 0, .int .i64 0] 33) hb4)); have HG4 := hidT (FilesAt.below (by first | exact HG3.out | exact FilesAt.below HG3.out (bnew _ _)) hb4); clear kQ; have kQ : w4.cell? ⟨w.heap.size, 0, none⟩ = some u ∧ w4.cell? ⟨w.heap.size + 1, 0, none⟩ = some (.string fp) ∧ w4.cell? ⟨w.heap.size + 1, 1, none⟩ = some (.int .i64 fm) ∧ w4.cell? ⟨w.heap.size + 1, 2, none⟩ = some (.string fd) := ⟨Mem.cell_of_row HP4.out.a 0, Mem.cell_of_row HP4.out.b 0, Mem.cell_of_row HP4.out.b 1, Mem.cell_of_row HP4.out.b 2⟩; clear hb4)
            | (go_at_call 11; refine (KS.out _ _ (by first | exact HG4.out | exact FilesAt.below HG4.out (bnew _ _))).mono ?_; rintro e w5 ⟨v5, rfl, hm5, hk5, hb5⟩; obtain ⟨a5, n5, k5, rfl⟩ := slice_form hm5; have HP5 := hidT (LP.below (by first | exact HP4.out | exact HP4.out.alloc _) hb5); have hs5 := HP5.out.size; have HM5 := hidT hm5; have HK5 := hidT hk5; (try have HX5 := hidT (row_keep HX4.out hb5)); (try have HX5 := hidT (row_keep (Sha.row_new w4 [.slice none 0 0, .int .i64 0] 33) hb5)); (try have o0 := Mem.cell_of_row HX5.out 0); (try have o1 := Mem.cell_of_row HX5.out 1); (try have of0 := Mem.frozen_of_row HX5.out 0); (try have of1 := Mem.frozen_of_row HX5.out 1); clear kQ; have kQ : w5.cell? ⟨w.heap.size, 0, none⟩ = some u ∧ w5.cell? ⟨w.heap.size + 1, 0, none⟩ = some (.string fp) ∧ w5.cell? ⟨w.heap.size + 1, 1, none⟩ = some (.int .i64 fm) ∧ w5.cell? ⟨w.heap.size + 1, 2, none⟩ = some (.string fd) := ⟨Mem.cell_of_row HP5.out.a 0, Mem.cell_of_row HP5.out.b 0, Mem.cell_of_row HP5.out.b 1, Mem.cell_of_row HP5.out.b 2⟩; clear hb5 hm5 hk5))
        all_goals go_wp2_with fail
        all_goals go_meet
        all_goals first
          | exact ⟨HP5.out.alloc _, box_new HM5.out (by omega)⟩
          | exact ⟨(HP5.out.set (by omega) 0 _).set (by omega) 1 _, box_set HM5.out (by omega) HX5.out (fun e => by have h9 := HK5.out _ e; (try simp at h9); omega)⟩
      case rest =>
        obtain ⟨hp, hbx⟩ := hcut
        obtain ⟨V1, rfl⟩ : ∃ V, V = wc := ⟨_, rfl⟩
        obtain ⟨cb, a5, n5, k5, rfl, hcb, hrc, hmc⟩ := hbx
        have HPC := hidT hp
        have HRC := hidT hrc
        have HMC := hidT hmc
        have hsC := hp.size
        have hcl := row_lt hrc
        clear hp hrc hmc HP2 a0 b0 b1 b2 hs2
        obtain ⟨a0, b0, b1, b2⟩ : V1.cell? ⟨w.heap.size, 0, none⟩ = some u ∧ V1.cell? ⟨w.heap.size + 1, 0, none⟩ = some (.string fp) ∧ V1.cell? ⟨w.heap.size + 1, 1, none⟩ = some (.int .i64 fm) ∧ V1.cell? ⟨w.heap.size + 1, 2, none⟩ = some (.string fd) := ⟨Mem.cell_of_row HPC.out.a 0, Mem.cell_of_row HPC.out.b 0, Mem.cell_of_row HPC.out.b 1, Mem.cell_of_row HPC.out.b 2⟩
        go_wp2_with fail
        refine (KT'.out _ (Files.below HF.out HPC.out.bel)).mono ?_
        rintro e w6 ⟨g6, rfl, hf6, hg6, hg6', hb6⟩
        have hal := bnew w6 (.cells #[.slice (some ⟨g6, 0, none⟩) l.length l.length] 31)
        have hrd : HasRow (w6.alloc (.cells #[.slice (some ⟨g6, 0, none⟩) l.length l.length] 31)) w6.heap.size [.slice (some ⟨g6, 0, none⟩) l.length l.length] 31 := Sha.row_new w6 [.slice (some ⟨g6, 0, none⟩) l.length l.length] _
        have hz : (w6.alloc (.cells #[.slice (some ⟨g6, 0, none⟩) l.length l.length] 31)).heap.size = w6.heap.size + 1 := by simp
        obtain ⟨V2, hV⟩ : ∃ V, V = w6.alloc (.cells #[.slice (some ⟨g6, 0, none⟩) l.length l.length] 31) := ⟨_, rfl⟩
        rw [← hV] at hal hrd hz
        have HV2 := hidT (hb6.trans (hal.mono hb6.size) : Below V1.heap.size V1 V2)
        have HG2 := hidT (FilesAt.below hf6 hal)
        have HD2 := hidT hrd
        have HP2 := hidT (HPC.out.below HV2.out)
        have hs6 := hb6.size
        have HZ := hidT hz
        have hXV := hV.symm
        clear hV hz hal hrd hf6 hb6 a0 b0 b1 b2
        obtain ⟨d0, a0, b0, b1, b2⟩ : V2.cell? ⟨w6.heap.size, 0, none⟩ = some (.slice (some ⟨g6, 0, none⟩) l.length l.length) ∧ V2.cell? ⟨w.heap.size, 0, none⟩ = some u ∧ V2.cell? ⟨w.heap.size + 1, 0, none⟩ = some (.string fp) ∧ V2.cell? ⟨w.heap.size + 1, 1, none⟩ = some (.int .i64 fm) ∧ V2.cell? ⟨w.heap.size + 1, 2, none⟩ = some (.string fd) := ⟨Mem.cell_of_row HD2.out 0, Mem.cell_of_row HP2.out.a 0, Mem.cell_of_row HP2.out.b 0, Mem.cell_of_row HP2.out.b 1, Mem.cell_of_row HP2.out.b 2⟩
        go_wp2_with fail
        clear hXV
        go_cut [8] (fun p wx => Below V2.heap.size V2 wx ∧ BoxI wx p V2.heap.size c L)
        case first =>
          go_region_held3 (fun W => W.cell? ⟨w6.heap.size, 0, none⟩ = some (.slice (some ⟨g6, 0, none⟩) l.length l.length) ∧ W.cell? ⟨w.heap.size, 0, none⟩ = some u ∧ W.cell? ⟨w.heap.size + 1, 0, none⟩ = some (.string fp) ∧ W.cell? ⟨w.heap.size + 1, 1, none⟩ = some (.int .i64 fm) ∧ W.cell? ⟨w.heap.size + 1, 2, none⟩ = some (.string fd))
            (first
              | go_keep
              | (exact kQ)
              | (exact cells2D HD8.out HP8.out (by have := HZ.out; omega) (by have := HZ.out; omega) _ _))
            (first
              | (go_at_call 13; refine (KF.out _).mono ?_; rintro e w7 ⟨rfl, hb7⟩; (first | (have hy7 : V2.heap.size + 1 ≤ w7.heap.size := by have := hb7.size; simpa using this) | (have hy7 : V2.heap.size ≤ w7.heap.size := hb7.size)); have HV7 : Hid (Below V2.heap.size V2 w7) := (by first | exact bstep (Below.refl _ _).drew hb7 | exact bstep (balloc (Below.refl _ _).drew _) hb7); (try have HX7 : Hid (HasRow w7 V2.heap.size [.slice none 0 0, .int .i64 0] 33) := row_keep (Sha.row_new V2.drew [.slice none 0 0, .int .i64 0] 33) hb7); have HG7 := hidT (FilesAt.below HG2.out HV7.out); have HD7 := hidT (row_keep HD2.out HV7.out); have HP7 := hidT (HP2.out.below HV7.out); have kQ : w7.cell? ⟨w6.heap.size, 0, none⟩ = some (.slice (some ⟨g6, 0, none⟩) l.length l.length) ∧ w7.cell? ⟨w.heap.size, 0, none⟩ = some u ∧ w7.cell? ⟨w.heap.size + 1, 0, none⟩ = some (.string fp) ∧ w7.cell? ⟨w.heap.size + 1, 1, none⟩ = some (.int .i64 fm) ∧ w7.cell? ⟨w.heap.size + 1, 2, none⟩ = some (.string fd) := ⟨Mem.cell_of_row HD7.out 0, Mem.cell_of_row HP7.out.a 0, Mem.cell_of_row HP7.out.b 0, Mem.cell_of_row HP7.out.b 1, Mem.cell_of_row HP7.out.b 2⟩; clear hb7)
              | (go_at_call 14; refine (KI.out _ _ (by first | exact HG7.out | exact FilesAt.below HG7.out (bnew _ _))).mono ?_; rintro e w8 ⟨v8, rfl, hm8, hk8, hb8⟩; obtain ⟨a8, n8, k8, rfl⟩ := slice_form hm8; (first | (have hy8 : w7.heap.size + 1 ≤ w8.heap.size := by have := hb8.size; simpa using this) | (have hy8 : w7.heap.size ≤ w8.heap.size := hb8.size)); have HV8 : Hid (Below V2.heap.size V2 w8) := (by first | exact bstep HV7.out hb8 | exact bstep (balloc HV7.out _) hb8); (try have HX8 := hidT (row_keep HX7.out hb8)); (try have HX8 := hidT (row_keep (Sha.row_new w7 [.slice none 0 0, .int .i64 0] 33) hb8)); have HM8 := hidT hm8; have HK8 := hidT hk8; have HD8 := hidT (row_keep HD2.out HV8.out); have HP8 := hidT (HP2.out.below HV8.out); (try have o0 := Mem.cell_of_row HX8.out 0); (try have o1 := Mem.cell_of_row HX8.out 1); (try have of0 := Mem.frozen_of_row HX8.out 0); (try have of1 := Mem.frozen_of_row HX8.out 1); clear kQ; have kQ : w8.cell? ⟨w6.heap.size, 0, none⟩ = some (.slice (some ⟨g6, 0, none⟩) l.length l.length) ∧ w8.cell? ⟨w.heap.size, 0, none⟩ = some u ∧ w8.cell? ⟨w.heap.size + 1, 0, none⟩ = some (.string fp) ∧ w8.cell? ⟨w.heap.size + 1, 1, none⟩ = some (.int .i64 fm) ∧ w8.cell? ⟨w.heap.size + 1, 2, none⟩ = some (.string fd) := ⟨Mem.cell_of_row HD8.out 0, Mem.cell_of_row HP8.out.a 0, Mem.cell_of_row HP8.out.b 0, Mem.cell_of_row HP8.out.b 1, Mem.cell_of_row HP8.out.b 2⟩; clear hb8 hm8 hk8))
          all_goals go_wp2_with fail
          all_goals go_meet
          all_goals first
            | exact ⟨balloc HV8.out _, boxI_new HM8.out (by omega) (fun q e => by have h9 := HK8.out q e; omega)⟩
            | exact ⟨(HV8.out.setCell (p := ⟨_, 0, none⟩) (by (try simp); (try omega)) _).setCell (p := ⟨_, 1, none⟩) (by (try simp); (try omega)) _, boxI_set HM8.out (by omega) HX8.out (fun q e => by have h9 := HK8.out q e; (try simp at h9); omega)⟩
        case rest =>
          obtain ⟨hv3, hbx⟩ := hcut
          obtain ⟨V3, rfl⟩ : ∃ V, V = wc := ⟨_, rfl⟩
          obtain ⟨eb, a8, n8, k8, rfl, heb, hre, hme, hqe⟩ := hbx
          have hel := row_lt hre
          have HQE := hidT hqe
          have HV3 := hidT hv3
          have HZZ := hidT HZ.out
          have hs3 := hv3.size
          have H13 := hidT (bstep HV2.out hv3)
          have HRE3 := hidT hre
          have HME3 := hidT hme
          have HC3 := hidT (row_keep HRC.out H13.out)
          have KE3 := hidT (eqTO_any (.slice a8 n8 k8) (.slice a5 n5 k5) c L V3 hme.files (HMC.out.below H13.out).files HLE.out)
          clear hv3 hre hme hqe d0 a0 b0 b1 b2
          obtain ⟨e0, e1⟩ : V3.cell? ⟨eb, 0, none⟩ = some (.slice a8 n8 k8) ∧ V3.cell? ⟨eb, 1, none⟩ = some (.int .i64 c) := ⟨Mem.cell_of_row HRE3.out 0, Mem.cell_of_row HRE3.out 1⟩
          obtain ⟨c0, c1⟩ : V3.cell? ⟨cb, 0, none⟩ = some (.slice a5 n5 k5) ∧ V3.cell? ⟨cb, 1, none⟩ = some (.int .i64 c) := ⟨Mem.cell_of_row HC3.out 0, Mem.cell_of_row HC3.out 1⟩
          go_wp2_with fail
          refine (KE3.out).mono ?_
          rintro e w9 ⟨rfl, hb9⟩
          have HV9 := hidT (bstep HV3.out hb9)
          have HB9 := hidT hb9
          have HD9 := hidT (row_keep HD2.out HV9.out)
          have HP9 := hidT (HP2.out.below HV9.out)
          have HG9 := hidT (FilesAt.below HG2.out HV9.out)
          clear hb9 e0 e1 c0 c1 KE3
          obtain ⟨d0, a0, b0, b1, b2⟩ : w9.cell? ⟨w6.heap.size, 0, none⟩ = some (.slice (some ⟨g6, 0, none⟩) l.length l.length) ∧ w9.cell? ⟨w.heap.size, 0, none⟩ = some u ∧ w9.cell? ⟨w.heap.size + 1, 0, none⟩ = some (.string fp) ∧ w9.cell? ⟨w.heap.size + 1, 1, none⟩ = some (.int .i64 fm) ∧ w9.cell? ⟨w.heap.size + 1, 2, none⟩ = some (.string fd) := ⟨Mem.cell_of_row HD9.out 0, Mem.cell_of_row HP9.out.a 0, Mem.cell_of_row HP9.out.b 0, Mem.cell_of_row HP9.out.b 1, Mem.cell_of_row HP9.out.b 2⟩
          clear b0 b1 b2
          go_wp2_with fail
          go_region_held3 (fun W => W.cell? ⟨w6.heap.size, 0, none⟩ = some (.slice (some ⟨g6, 0, none⟩) l.length l.length) ∧ W.cell? ⟨w.heap.size, 0, none⟩ = some u)
            (first
              | go_keep
              | (exact kR)
              | (exact kQ))
            (first
              | (go_at_call 12; refine (KT'.out _ (Files.below HF.out HP9.out.drew.bel)).mono ?_; rintro e w10 ⟨g10, rfl, hf10, hg10, hg10', hb10⟩; have hd : Below w9.heap.size w9 w10 := bstep (Below.refl _ _).drew hb10; have HB10 := hidT (bstep HB9.out hd); have HD10 := hidT (row_keep HD9.out hd); have HP10 := hidT (HP9.out.below hd); have HG10 := hidT (FilesAt.below HG9.out hd); have HF10 := hidT hf10; have kQ : w10.cell? ⟨w6.heap.size, 0, none⟩ = some (.slice (some ⟨g6, 0, none⟩) l.length l.length) ∧ w10.cell? ⟨w.heap.size, 0, none⟩ = some u := ⟨Mem.cell_of_row HD10.out 0, Mem.cell_of_row HP10.out.a 0⟩; clear hf10 hg10 hg10' hb10 hd)
              | (go_at_call 16; refine (KE'.out _ _ _ (FilesAt.files HG10.out _) (FilesAt.files HF10.out _)).mono ?_; rintro e w11 ⟨rfl, hb11⟩; have HB11 := hidT (bstep HB10.out hb11); have HD11 := hidT (row_keep HD10.out hb11); have HP11 := hidT (HP10.out.below hb11); have HG11 := hidT (FilesAt.below HG10.out hb11); clear hb11; have kR : w11.cell? ⟨w6.heap.size, 0, none⟩ = some (.slice (some ⟨g6, 0, none⟩) l.length l.length) ∧ w11.cell? ⟨w.heap.size, 0, none⟩ = some u := ⟨Mem.cell_of_row HD11.out 0, Mem.cell_of_row HP11.out.a 0⟩; simp only [CutCall.shut_cut] at *))
          unfold Hid
          refine wpAnyH_take (i := 4) (v := ?_) rfl (by kernel_rfl) (by kernel_rfl) (by kernel_rfl) (fun _ _ _ h => h) (Or.inl ⟨by rfl, ?_⟩) kR ?_
          rotate_left
          · (intro w9 hS9; (try dsimp only at hS9); go_simp; (try with_reducible rfl))
          simp only [List.getElem_toArray, List.getElem_cons_succ, List.getElem_cons_zero, Act.put, List.setIfInBounds_toArray, List.set_cons_zero, List.set_cons_succ]
          refine wpAnyH_done (by kernel_rfl) ?_ _
          refine NoPanic.normal ?_
          clear d0 a0 kQ
          obtain ⟨d0, a0⟩ := kR
          have KM := hidT (markTree_any g6 0 l.length 1 l w11 HG11.out HLL.out (by omega))
          generalize hTM : ((1 + 3 * l.length : Nat) : Int) = TM at KM
          have hTM0 : ¬ TM < 0 := by omega
          have HTM := hidT hTM
          clear hTM
          go_wp2_with fail
          refine (KM.out).mono ?_
          rintro e w12 ⟨rfl, hm12, hg12⟩
          have hs11 := HB11.out.size
          have HV11 := hidT (bstep HV3.out HB11.out)
          have H1_12 : Hid (Below V1.heap.size V1 w12) := (bstep HV2.out HV11.out).grown hg12 (by have := HV2.out.size; have := HV11.out.size; omega) (fun j hj => by injection hj with hj; omega)
          have HRE12 := hidT (row_stay (row_keep HRE3.out HB11.out) hg12 (fun e => by injection e with e; have := HZZ.out; omega))
          have HME12 := hidT (Mk.apart (HME3.out.below HB11.out) hg12 (fun e => by have := HQE.out g6 e; have := HZZ.out; omega))
          have hs12 := hg12.size
          have HC12 := hidT (row_keep HRC.out H1_12.out)
          have KE12 := hidT (eqTO_any (.slice a8 n8 k8) (.slice a5 n5 k5) c L w12 HME12.out.files (HMC.out.below H1_12.out).files HLE.out)
          clear hm12 hg12 d0 a0 KM
          obtain ⟨e0, e1⟩ : w12.cell? ⟨eb, 0, none⟩ = some (.slice a8 n8 k8) ∧ w12.cell? ⟨eb, 1, none⟩ = some (.int .i64 c) := ⟨Mem.cell_of_row HRE12.out 0, Mem.cell_of_row HRE12.out 1⟩
          obtain ⟨c0, c1⟩ : w12.cell? ⟨cb, 0, none⟩ = some (.slice a5 n5 k5) ∧ w12.cell? ⟨cb, 1, none⟩ = some (.int .i64 c) := ⟨Mem.cell_of_row HC12.out 0, Mem.cell_of_row HC12.out 1⟩
          go_wp2_with fail
          refine (KE12.out).mono ?_
          rintro e w13 ⟨rfl, hb13⟩
          have hs13 := hb13.size
          have H1_13 := hidT (bstep H1_12.out hb13)
          have HRE13 := hidT (row_keep HRE12.out hb13)
          have HME13 := hidT (HME12.out.below hb13)
          clear hb13 e0 e1 c0 c1 KE12
          obtain ⟨e0, e1⟩ : w13.cell? ⟨eb, 0, none⟩ = some (.slice a8 n8 k8) ∧ w13.cell? ⟨eb, 1, none⟩ = some (.int .i64 c) := ⟨Mem.cell_of_row HRE13.out 0, Mem.cell_of_row HRE13.out 1⟩
          have KM := markTO_any (.slice a8 n8 k8) 1 c L w13 HME13.out HLE.out (by omega)
          rw [← HTT.out] at KM
          have KMH := hidT KM
          clear KM
          go_wp2_with fail
          refine (KMH.out).mono ?_
          rintro e w14 ⟨rfl, hm14, hg14⟩
          have hs14 := hg14.size
          have H1_14 : Hid (Below V1.heap.size V1 w14) := H1_13.out.grown hg14 (by have := H1_13.out.size; omega) (fun j hj => by have := HQE.out j hj; have := HV2.out.size; omega)
          have HRE14 := hidT (row_stay HRE13.out hg14 (fun e => (HQE.out eb e.symm).2.2 rfl))
          have HM14 := hidT hm14
          clear e0 e1 KMH hm14 hg14
          obtain ⟨e0, e1⟩ : w14.cell? ⟨eb, 0, none⟩ = some (.slice a8 n8 k8) ∧ w14.cell? ⟨eb, 1, none⟩ = some (.int .i64 c) := ⟨Mem.cell_of_row HRE14.out 0, Mem.cell_of_row HRE14.out 1⟩
          have KH := heldTO_any (.slice a8 n8 k8) 1 L.length c w14 HM14.out.files HLE.out (by omega)
          rw [← HTT.out] at KH
          have KHH := hidT KH
          clear KH
          go_wp2_with fail
          refine (KHH.out).mono ?_
          rintro e w15 ⟨rfl, hb15⟩
          have hn0 : ¬ T < 0 := by omega
          have H1_15 := hidT (bstep H1_14.out hb15)
          have HRE15 := hidT (row_keep HRE14.out hb15)
          have HM15 := hidT (HM14.out.below hb15)
          have HP15 := hidT (HPC.out.below H1_15.out)
          clear hb15 e0 e1 KHH
          obtain ⟨a0, b0, b1, b2⟩ : w15.cell? ⟨w.heap.size, 0, none⟩ = some u ∧ w15.cell? ⟨w.heap.size + 1, 0, none⟩ = some (.string fp) ∧ w15.cell? ⟨w.heap.size + 1, 1, none⟩ = some (.int .i64 fm) ∧ w15.cell? ⟨w.heap.size + 1, 2, none⟩ = some (.string fd) := ⟨Mem.cell_of_row HP15.out.a 0, Mem.cell_of_row HP15.out.b 0, Mem.cell_of_row HP15.out.b 1, Mem.cell_of_row HP15.out.b 2⟩
          go_wp2_with fail
          have hs15 := HP15.out.size
          go_cut [12] (fun p wx => Below w15.heap.size w15 wx ∧ Box wx p w15.heap.size c L)
          case first =>
            go_region_held3 (fun W => W.cell? ⟨w.heap.size, 0, none⟩ = some u ∧ W.cell? ⟨w.heap.size + 1, 0, none⟩ = some (.string fp) ∧ W.cell? ⟨w.heap.size + 1, 1, none⟩ = some (.int .i64 fm) ∧ W.cell? ⟨w.heap.size + 1, 2, none⟩ = some (.string fd))
              (first
                | go_keep
                | (exact kQ)
                | (exact LP.cells2 HP18.out (by omega) _ _))
              (first
                | (go_at_call 12; refine (KT'.out _ (Files.below HF.out (by first | exact HP15.out.drew.bel | exact (HP15.out.drew.alloc _).bel))).mono ?_; rintro e w16 ⟨g16, rfl, hf3, hg3, hg3', hb3⟩; (first | (have hy16 : w15.heap.size + 1 ≤ w16.heap.size := by have := hb3.size; simpa using this) | (have hy16 : w15.heap.size ≤ w16.heap.size := hb3.size)); have HV16 : Hid (Below w15.heap.size w15 w16) := (by first | exact bstep (Below.refl _ _).drew hb3 | exact bstep (balloc (Below.refl _ _).drew _) hb3); have HP16 := hidT (HP15.out.below HV16.out); (try have HX16 : Hid (HasRow w16 w15.heap.size [.slice none 0 0, .int .i64 0] 33) := row_keep (Sha.row_new w15.drew [.slice none 0 0, .int .i64 0] 33) hb3); have HG16 := hidT hf3; have kQ : w16.cell? ⟨w.heap.size, 0, none⟩ = some u ∧ w16.cell? ⟨w.heap.size + 1, 0, none⟩ = some (.string fp) ∧ w16.cell? ⟨w.heap.size + 1, 1, none⟩ = some (.int .i64 fm) ∧ w16.cell? ⟨w.heap.size + 1, 2, none⟩ = some (.string fd) := ⟨Mem.cell_of_row HP16.out.a 0, Mem.cell_of_row HP16.out.b 0, Mem.cell_of_row HP16.out.b 1, Mem.cell_of_row HP16.out.b 2⟩; clear hf3 hg3 hg3' hb3)
                | (go_at_call 13; refine (KF.out _).mono ?_; rintro e w17 ⟨rfl, hb4⟩; (first | (have hy17 : w16.heap.size + 1 ≤ w17.heap.size := by have := hb4.size; simpa using this) | (have hy17 : w16.heap.size ≤ w17.heap.size := hb4.size)); have HV17 : Hid (Below w15.heap.size w15 w17) := (by first | exact bstep HV16.out hb4 | exact bstep (balloc HV16.out _) hb4); have HP17 := hidT (HP15.out.below HV17.out); (try have HX17 := hidT (row_keep HX16.out hb4)); (try have HX17 := hidT (row_keep (Sha.row_new w16 [.slice none 0 0, .int .i64 0] 33) hb4)); have HG17 := hidT (FilesAt.below (by first | exact HG16.out | exact FilesAt.below HG16.out (bnew _ _)) hb4); clear kQ; have kQ : w17.cell? ⟨w.heap.size, 0, none⟩ = some u ∧ w17.cell? ⟨w.heap.size + 1, 0, none⟩ = some (.string fp) ∧ w17.cell? ⟨w.heap.size + 1, 1, none⟩ = some (.int .i64 fm) ∧ w17.cell? ⟨w.heap.size + 1, 2, none⟩ = some (.string fd) := ⟨Mem.cell_of_row HP17.out.a 0, Mem.cell_of_row HP17.out.b 0, Mem.cell_of_row HP17.out.b 1, Mem.cell_of_row HP17.out.b 2⟩; clear hb4)
                | (go_at_call 14; refine (KI.out _ _ (by first | exact HG17.out | exact FilesAt.below HG17.out (bnew _ _))).mono ?_; rintro e w18 ⟨v18, rfl, hm5, hk5, hb5⟩; obtain ⟨a18, n18, k18, rfl⟩ := slice_form hm5; have HV18 : Hid (Below w15.heap.size w15 w18) := (by first | exact bstep HV17.out hb5 | exact bstep (balloc HV17.out _) hb5); have HP18 := hidT (HP15.out.below HV18.out); have hz18 := HV18.out.size; have HM18 := hidT hm5; have HK18 := hidT hk5; (try have HX18 := hidT (row_keep HX17.out hb5)); (try have HX18 := hidT (row_keep (Sha.row_new w17 [.slice none 0 0, .int .i64 0] 33) hb5)); (try have o0 := Mem.cell_of_row HX18.out 0); (try have o1 := Mem.cell_of_row HX18.out 1); (try have of0 := Mem.frozen_of_row HX18.out 0); (try have of1 := Mem.frozen_of_row HX18.out 1); clear kQ; have kQ : w18.cell? ⟨w.heap.size, 0, none⟩ = some u ∧ w18.cell? ⟨w.heap.size + 1, 0, none⟩ = some (.string fp) ∧ w18.cell? ⟨w.heap.size + 1, 1, none⟩ = some (.int .i64 fm) ∧ w18.cell? ⟨w.heap.size + 1, 2, none⟩ = some (.string fd) := ⟨Mem.cell_of_row HP18.out.a 0, Mem.cell_of_row HP18.out.b 0, Mem.cell_of_row HP18.out.b 1, Mem.cell_of_row HP18.out.b 2⟩; clear hb5 hm5 hk5))
            all_goals go_wp2_with fail
            all_goals go_meet
            all_goals first
              | exact ⟨balloc HV18.out _, box_new HM18.out (by omega)⟩
              | exact ⟨(HV18.out.setCell (p := ⟨_, 0, none⟩) (by (try simp); (try omega)) _).setCell (p := ⟨_, 1, none⟩) (by (try simp); (try omega)) _, box_set HM18.out (by omega) HX18.out (fun e => by have h9 := HK18.out _ e; (try simp at h9); omega)⟩
          case rest =>
            obtain ⟨hv4, hbx⟩ := hcut
            obtain ⟨V4, rfl⟩ : ∃ V, V = wc := ⟨_, rfl⟩
            obtain ⟨fb, a18, n18, k18, rfl, hfb, hrf, hmf⟩ := hbx
            have H14 := hidT (bstep H1_15.out hv4)
            have HC4 := hidT (row_keep HRC.out H14.out)
            have HRF := hidT hrf
            have HRE4 := hidT (row_keep HRE15.out hv4)
            have HM4 := hidT (HM15.out.below hv4)
            have KE4 := hidT (eqTO_any (.slice a18 n18 k18) (.slice a5 n5 k5) c L V4 hmf.files (HMC.out.below H14.out).files HLE.out)
            clear hv4 hrf hmf a0 b0 b1 b2
            obtain ⟨f0, f1⟩ : V4.cell? ⟨fb, 0, none⟩ = some (.slice a18 n18 k18) ∧ V4.cell? ⟨fb, 1, none⟩ = some (.int .i64 c) := ⟨Mem.cell_of_row HRF.out 0, Mem.cell_of_row HRF.out 1⟩
            obtain ⟨c0, c1⟩ : V4.cell? ⟨cb, 0, none⟩ = some (.slice a5 n5 k5) ∧ V4.cell? ⟨cb, 1, none⟩ = some (.int .i64 c) := ⟨Mem.cell_of_row HC4.out 0, Mem.cell_of_row HC4.out 1⟩
            go_wp2_with fail
            refine (KE4.out).mono ?_
            rintro e w19 ⟨rfl, hb19⟩
            have H1_19 := hidT (bstep H14.out hb19)
            have HRE19 := hidT (row_keep HRE4.out hb19)
            have HM19 := hidT (HM4.out.below hb19)
            clear hb19 f0 f1 c0 c1 KE4
            obtain ⟨e0, e1⟩ : w19.cell? ⟨eb, 0, none⟩ = some (.slice a8 n8 k8) ∧ w19.cell? ⟨eb, 1, none⟩ = some (.int .i64 c) := ⟨Mem.cell_of_row HRE19.out 0, Mem.cell_of_row HRE19.out 1⟩
            have KH := heldTO_any (.slice a8 n8 k8) 1 L.length c w19 HM19.out.files HLE.out (by omega)
            rw [← HTT.out] at KH
            have KHH := hidT KH
            clear KH
            go_wp2_with fail
            refine (KHH.out).mono ?_
            rintro e w20 ⟨rfl, hb20⟩
            have HB20 := hidT (bstep HPC.out.bel (bstep H1_19.out hb20))
            clear hb20 e0 e1 KHH
            go_wp2
            go_ret
            exact ⟨rfl, HB20.out⟩
    · go_wp2
      go_ret
      exact ⟨rfl, HP2.out.bel⟩
  · go_wp2
    go_ret
    exact ⟨rfl, HP1.out.bel⟩
end Go.Proofs.Ytfpgobkedfhakaa.Tre
