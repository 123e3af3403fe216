/- The digest of chapter 3 as a function of numbers. -/
import Derived.WalkKit
import Derived.Laws.BitsAllLaws
namespace Go.Proofs.YthkgncgaemoppaaDoor.Sha
open Go.RowKit

def rotr (k x : Nat) : Nat := x / 2 ^ k ||| x * 2 ^ (32 - k) % 4294967296
def sm0 (x : Nat) : Nat := rotr 7 x ^^^ rotr 18 x ^^^ x / 8
def sm1 (x : Nat) : Nat := rotr 17 x ^^^ rotr 19 x ^^^ x / 1024
def sg1 (e : Nat) : Nat := rotr 6 e ^^^ rotr 11 e ^^^ rotr 25 e
def sg0 (a : Nat) : Nat := rotr 2 a ^^^ rotr 13 a ^^^ rotr 22 a
def ch (e f g : Nat) : Nat := (e &&& f) ^^^ ((e ^^^ 4294967295) &&& g)
def maj (a b c : Nat) : Nat := (a &&& b) ^^^ (a &&& c) ^^^ (b &&& c)

def keys : List Nat := [1116352408, 1899447441, 3049323471, 3921009573, 961987163, 1508970993, 2453635748, 2870763221, 3624381080, 310598401, 607225278, 1426881987, 1925078388, 2162078206, 2614888103, 3248222580,
  3835390401, 4022224774, 264347078, 604807628, 770255983, 1249150122, 1555081692, 1996064986, 2554220882, 2821834349, 2952996808, 3210313671, 3336571891, 3584528711, 113926993, 338241895,
  666307205, 773529912, 1294757372, 1396182291, 1695183700, 1986661051, 2177026350, 2456956037, 2730485921, 2820302411, 3259730800, 3345764771, 3516065817, 3600352804, 4094571909, 275423344,
  430227734, 506948616, 659060556, 883997877, 958139571, 1322822218, 1537002063, 1747873779, 1955562222, 2024104815, 2227730452, 2361852424, 2428436474, 2756734187, 3204031479, 3329325298]
def start : List Nat := [1779033703, 3144134277, 1013904242, 2773480762, 1359893119, 2600822924, 528734635, 1541459225]

/-- The number i of a block. -/
def word (b : ByteArray) (i : Nat) : Nat :=
  (b[4 * i]?.getD 0).toNat * 16777216 ||| (b[4 * i + 1]?.getD 0).toNat * 65536 ||| (b[4 * i + 2]?.getD 0).toNat * 256 ||| (b[4 * i + 3]?.getD 0).toNat
def words (b : ByteArray) (n : Nat) : List Nat := (List.range n).map (word b)
/-- What comes behind the numbers so far. -/
def wNext (w : List Nat) : Nat :=
  (w.getD (w.length - 16) 0 + sm0 (w.getD (w.length - 15) 0) + w.getD (w.length - 7) 0 + sm1 (w.getD (w.length - 2) 0)) % 4294967296
def wTo : Nat → List Nat → List Nat
  | 0, w => w
  | n + 1, w => wTo n w ++ [wNext (wTo n w)]

structure St where
  a : Nat
  b : Nat
  c : Nat
  d : Nat
  e : Nat
  f : Nat
  g : Nat
  h : Nat
def t1 (k w : Nat) (s : St) : Nat := (s.h + sg1 s.e + ch s.e s.f s.g + k + w) % 4294967296
def t2 (s : St) : Nat := (sg0 s.a + maj s.a s.b s.c) % 4294967296
def rnd (k w : Nat) (s : St) : St := ⟨(t1 k w s + t2 s) % 4294967296, s.a, s.b, s.c, (s.d + t1 k w s) % 4294967296, s.e, s.f, s.g⟩
def rnds (ws : List Nat) : Nat → St → St
  | 0, s => s
  | n + 1, s => rnd (keys.getD n 0) (ws.getD n 0) (rnds ws n s)

def St.Small (s : St) : Prop := s.a < 4294967296 ∧ s.b < 4294967296 ∧ s.c < 4294967296 ∧ s.d < 4294967296 ∧ s.e < 4294967296 ∧ s.f < 4294967296 ∧ s.g < 4294967296 ∧ s.h < 4294967296

theorem xor_lt {a b : Nat} (ha : a < 4294967296) (hb : b < 4294967296) : a ^^^ b < 4294967296 := Nat.xor_lt_two_pow (n := 32) ha hb
theorem and_lt {a b : Nat} (hb : b < 4294967296) : a &&& b < 4294967296 := Nat.and_lt_two_pow (n := 32) a hb
theorem or_lt {a b : Nat} (ha : a < 4294967296) (hb : b < 4294967296) : a ||| b < 4294967296 := Nat.or_lt_two_pow (n := 32) ha hb

theorem div_lt {x : Nat} (h : x < 4294967296) (k : Nat) : x / 2 ^ k < 4294967296 := Nat.lt_of_le_of_lt (Nat.div_le_self _ _) h
theorem rotr_lt {x : Nat} (h : x < 4294967296) (k : Nat) : rotr k x < 4294967296 := or_lt (div_lt h k) (Nat.mod_lt _ (by omega))
theorem sm0_lt {x : Nat} (h : x < 4294967296) : sm0 x < 4294967296 := xor_lt (xor_lt (rotr_lt h _) (rotr_lt h _)) (by omega)
theorem sm1_lt {x : Nat} (h : x < 4294967296) : sm1 x < 4294967296 := xor_lt (xor_lt (rotr_lt h _) (rotr_lt h _)) (by omega)
theorem sg0_lt {x : Nat} (h : x < 4294967296) : sg0 x < 4294967296 := xor_lt (xor_lt (rotr_lt h _) (rotr_lt h _)) (rotr_lt h _)
theorem sg1_lt {x : Nat} (h : x < 4294967296) : sg1 x < 4294967296 := xor_lt (xor_lt (rotr_lt h _) (rotr_lt h _)) (rotr_lt h _)
theorem ch_lt {e f g : Nat} (hf : f < 4294967296) (hg : g < 4294967296) : ch e f g < 4294967296 := xor_lt (and_lt hf) (and_lt hg)
theorem maj_lt {a b c : Nat} (hb : b < 4294967296) (hc : c < 4294967296) : maj a b c < 4294967296 := xor_lt (xor_lt (and_lt hb) (and_lt hc)) (and_lt hc)

theorem rnd_small {k w : Nat} {s : St} (h : s.Small) : (rnd k w s).Small := by
  obtain ⟨h1, h2, h3, h4, h5, h6, h7, h8⟩ := h
  exact ⟨Nat.mod_lt _ (by omega), h1, h2, h3, Nat.mod_lt _ (by omega), h5, h6, h7⟩
theorem rnds_small {ws : List Nat} {s : St} (h : s.Small) : ∀ n, (rnds ws n s).Small
  | 0 => h
  | n + 1 => rnd_small (rnds_small h n)

theorem length_wTo (w : List Nat) : ∀ n, (wTo n w).length = w.length + n
  | 0 => rfl
  | n + 1 => by simp [wTo, length_wTo w n]; omega

theorem or32 {a b : Nat} (ha : a < 4294967296) (hb : b < 4294967296) : bits .or .u32 (a : Int) (b : Int) = ((a ||| b : Nat) : Int) := u32_or_nat a b ha hb
theorem and32 {a b : Nat} (ha : a < 4294967296) (hb : b < 4294967296) : bits .and .u32 (a : Int) (b : Int) = ((a &&& b : Nat) : Int) := u32_and_nat a b ha hb
theorem xor32 {a b : Nat} (ha : a < 4294967296) (hb : b < 4294967296) : bits .xor .u32 (a : Int) (b : Int) = ((a ^^^ b : Nat) : Int) := u32_xor_nat a b ha hb

/-- A turn to the right, in the walk's words. -/
theorem turn_bits {x k : Nat} (hx : x < 4294967296) : bits .or .u32 ((x : Int) / 2 ^ k) ((x : Int) * 2 ^ (32 - k) % 4294967296) = (rotr k x : Int) := by
  have h := or32 (div_lt hx k) (Nat.mod_lt (x * 2 ^ (32 - k)) (by omega : 0 < 4294967296))
  unfold rotr
  rw [← h]
  simp
end Go.Proofs.YthkgncgaemoppaaDoor.Sha
