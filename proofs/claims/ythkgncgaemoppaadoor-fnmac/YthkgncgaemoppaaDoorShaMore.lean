/- The digest of chapter 3 as a function of texts: padding, blocks, bytes told. -/
import Derived.Test.YthkgncgaemoppaaDoorShaPure
namespace Go.Proofs.YthkgncgaemoppaaDoor.Sha
open Go.RowKit

/-- The block k of the bytes. -/
def blk (all : List UInt8) (k : Nat) : ByteArray := ⟨((all.drop (64 * k)).take 64).toArray⟩
def listOf (s : St) : List Nat := [s.a, s.b, s.c, s.d, s.e, s.f, s.g, s.h]
def addSt (s t : St) : St := ⟨(s.a + t.a) % 4294967296, (s.b + t.b) % 4294967296, (s.c + t.c) % 4294967296, (s.d + t.d) % 4294967296, (s.e + t.e) % 4294967296, (s.f + t.f) % 4294967296, (s.g + t.g) % 4294967296, (s.h + t.h) % 4294967296⟩
def wsOf (b : ByteArray) : List Nat := wTo 48 (words b 16)
def blockS (s : St) (b : ByteArray) : St := addSt s (rnds (wsOf b) 64 s)
def startS : St := ⟨1779033703, 3144134277, 1013904242, 2773480762, 1359893119, 2600822924, 528734635, 1541459225⟩
def stTo (all : List UInt8) : Nat → St
  | 0 => startS
  | k + 1 => blockS (stTo all k) (blk all k)

/-- The lowest i bytes of a number, the highest first. -/
def low (v : Nat) : Nat → List UInt8
  | 0 => []
  | i + 1 => UInt8.ofNat (v / 256 ^ i) :: low v i
def padL (s : ByteArray) : List UInt8 := s.data.toList ++ [128] ++ List.replicate ((119 - s.size % 64) % 64) 0 ++ low (8 * s.size) 8
def tellTo (s : St) (n : Nat) : List UInt8 := ((listOf s).take n).flatMap fun x => low x 4
def digL (s : ByteArray) : List UInt8 := tellTo (stTo (padL s) ((s.size + 72) / 64)) 8
def digB (s : ByteArray) : ByteArray := ⟨(digL s).toArray⟩

theorem length_low (v : Nat) : ∀ i, (low v i).length = i
  | 0 => rfl
  | i + 1 => by simp [low, length_low v i]
theorem length_padL (s : ByteArray) : (padL s).length = (s.size + 72) / 64 * 64 := by
  have : s.data.toList.length = s.size := rfl
  simp only [padL, List.length_append, List.length_singleton, List.length_replicate, length_low, this]
  omega
theorem startS_small : startS.Small := by unfold St.Small startS; decide
theorem addSt_small (s t : St) : (addSt s t).Small := by
  unfold St.Small addSt
  exact ⟨Nat.mod_lt _ (by omega), Nat.mod_lt _ (by omega), Nat.mod_lt _ (by omega), Nat.mod_lt _ (by omega), Nat.mod_lt _ (by omega), Nat.mod_lt _ (by omega), Nat.mod_lt _ (by omega), Nat.mod_lt _ (by omega)⟩
theorem stTo_small (all : List UInt8) : ∀ k, (stTo all k).Small
  | 0 => startS_small
  | _ + 1 => addSt_small _ _
theorem size_blk {all : List UInt8} {k n : Nat} (h : all.length = n * 64) (hk : k < n) : (blk all k).size = 64 := by
  show (((all.drop (64 * k)).take 64).toArray).size = 64
  simp
  omega
theorem blk_at {all : List UInt8} {k n j : Nat} (h : all.length = n * 64) (hk : k < n) (hj : j < 64) (hs : j < (blk all k).size) : (blk all k)[j] = all[64 * k + j]'(by omega) := by
  have h2 : (64 * k + j) < all.length := by omega
  have e : (blk all k).data[j]? = some (all[64 * k + j]) := by
    show ((all.drop (64 * k)).take 64).toArray[j]? = _
    simp [hj, List.getElem?_drop, h2]
  have e2 : (blk all k).data[j]? = some ((blk all k)[j]) := by
    exact Array.getElem?_eq_getElem (xs := (blk all k).data) hs
  rw [e] at e2
  exact (Option.some.inj e2).symm
theorem size_digB (s : ByteArray) : (digB s).size = 32 := by
  show (digL s).toArray.size = 32
  simp [digL, tellTo, listOf, length_low]
theorem tellTo_succ (s : St) (n : Nat) (h : n < 8) : tellTo s (n + 1) = tellTo s n ++ low ((listOf s).getD n 0) 4 := by
  have hl : n < (listOf s).length := by simpa [listOf] using h
  have e : (listOf s).take (n + 1) = (listOf s).take n ++ [(listOf s).getD n 0] := by
    rw [List.take_succ_eq_append_getElem hl]
    simp [List.getD, hl]
  unfold tellTo
  rw [e, List.flatMap_append]
  simp
theorem length_tellTo (s : St) (n : Nat) (h : n ≤ 8) : (tellTo s n).length = 4 * n := by
  induction n with
  | zero => rfl
  | succ n ih => rw [tellTo_succ s n (by omega), List.length_append, ih (by omega), length_low]; omega

/-- The key, filled up to a block, each byte put together with one. -/
def padK (key : ByteArray) (x : Nat) : ByteArray := ⟨((List.range 64).map fun i => UInt8.ofNat ((key.data.toList.getD i 0).toNat ^^^ x)).toArray⟩
def keyOf (key : ByteArray) : ByteArray := if key.size ≤ 64 then key else digB key
def macB (key text : ByteArray) : ByteArray := digB (padK (keyOf key) 92 ++ digB (padK (keyOf key) 54 ++ text))
def saltB : ByteArray := ⟨#[115, 97, 108, 116]⟩
def stretchB (pass : ByteArray) : Nat → ByteArray
  | 0 => saltB
  | n + 1 => macB pass (stretchB pass n)
theorem size_padK (key : ByteArray) (x : Nat) : (padK key x).size = 64 := by
  show (((List.range 64).map _).toArray).size = 64
  simp
theorem size_keyOf (key : ByteArray) : (keyOf key).size ≤ 64 := by
  unfold keyOf; split
  · assumption
  · rw [size_digB]; omega
theorem size_macB (k t : ByteArray) : (macB k t).size = 32 := size_digB _
theorem size_stretchB (p : ByteArray) (n : Nat) : (stretchB p n).size ≤ 32 := by
  cases n with
  | zero => show (4 : Nat) ≤ 32; omega
  | succ n => rw [stretchB, size_macB]; omega
end Go.Proofs.YthkgncgaemoppaaDoor.Sha
