/- The digest as plain functions on numbers of 32 bits, bytes and lists. No program is named here. -/
namespace Go.Proofs.YtbklcelnnmhgkaaDoor

/-- A step done for 0, 1, .. n - 1. -/
def upto {α : Type} (f : Nat → α → α) : Nat → α → α
  | 0, x => x
  | n + 1, x => f n (upto f n x)

def shr (x : UInt32) (n : Nat) : UInt32 := UInt32.ofNat (x.toNat / 2 ^ n)
def shl (x : UInt32) (n : Nat) : UInt32 := UInt32.ofNat (x.toNat * 2 ^ n)
def rotr (x : UInt32) (n : Nat) : UInt32 := shl x (32 - n) ||| shr x n

structure S8 where
  a : UInt32
  b : UInt32
  c : UInt32
  d : UInt32
  e : UInt32
  f : UInt32
  g : UInt32
  h : UInt32

def S8.list (s : S8) : List UInt32 := [s.a, s.b, s.c, s.d, s.e, s.f, s.g, s.h]

def KT : List UInt32 := [
  0x428a2f98, 0x71374491, 0xb5c0fbcf, 0xe9b5dba5, 0x3956c25b, 0x59f111f1, 0x923f82a4, 0xab1c5ed5,
  0xd807aa98, 0x12835b01, 0x243185be, 0x550c7dc3, 0x72be5d74, 0x80deb1fe, 0x9bdc06a7, 0xc19bf174,
  0xe49b69c1, 0xefbe4786, 0x0fc19dc6, 0x240ca1cc, 0x2de92c6f, 0x4a7484aa, 0x5cb0a9dc, 0x76f988da,
  0x983e5152, 0xa831c66d, 0xb00327c8, 0xbf597fc7, 0xc6e00bf3, 0xd5a79147, 0x06ca6351, 0x14292967,
  0x27b70a85, 0x2e1b2138, 0x4d2c6dfc, 0x53380d13, 0x650a7354, 0x766a0abb, 0x81c2c92e, 0x92722c85,
  0xa2bfe8a1, 0xa81a664b, 0xc24b8b70, 0xc76c51a3, 0xd192e819, 0xd6990624, 0xf40e3585, 0x106aa070,
  0x19a4c116, 0x1e376c08, 0x2748774c, 0x34b0bcb5, 0x391c0cb3, 0x4ed8aa4a, 0x5b9cca4f, 0x682e6ff3,
  0x748f82ee, 0x78a5636f, 0x84c87814, 0x8cc70208, 0x90befffa, 0xa4506ceb, 0xbef9a3f7, 0xc67178f2]
def S0 : S8 := ⟨0x6a09e667, 0xbb67ae85, 0x3c6ef372, 0xa54ff53a, 0x510e527f, 0x9b05688c, 0x1f83d9ab, 0x5be0cd19⟩

/-- A list's number at a place (0 where there is none). -/
def nth (l : List UInt32) (i : Nat) : UInt32 := l.getD i 0

/-- One byte of a block goes into its word. -/
def fillStep (blk : List UInt8) (i : Nat) (L : List UInt32) : List UInt32 :=
  L.set (i / 4) (shl (nth L (i / 4)) 8 ||| UInt32.ofNat (blk.getD i 0).toNat)
/-- One word is made of earlier ones. -/
def expStep (i : Nat) (L : List UInt32) : List UInt32 :=
  L.set i (nth L (i - 16) + (rotr (nth L (i - 15)) 7 ^^^ rotr (nth L (i - 15)) 18 ^^^ shr (nth L (i - 15)) 3) + nth L (i - 7) + (rotr (nth L (i - 2)) 17 ^^^ rotr (nth L (i - 2)) 19 ^^^ shr (nth L (i - 2)) 10))
def zeros : List UInt32 := List.replicate 64 0
def fillL (blk : List UInt8) : List UInt32 := upto (fillStep blk) 64 zeros
def wordsL (blk : List UInt8) : List UInt32 := upto (fun i => expStep (16 + i)) 48 (fillL blk)

def tOf (k w : UInt32) (s : S8) : UInt32 := s.h + (rotr s.e 6 ^^^ rotr s.e 11 ^^^ rotr s.e 25) + (s.e &&& s.f ^^^ ~~~s.e &&& s.g) + k + w
def uOf (s : S8) : UInt32 := (rotr s.a 2 ^^^ rotr s.a 13 ^^^ rotr s.a 22) + (s.a &&& s.b ^^^ s.a &&& s.c ^^^ s.b &&& s.c)
def rnd (W : List UInt32) (i : Nat) (s : S8) : S8 :=
  ⟨tOf (nth KT i) (nth W i) s + uOf s, s.a, s.b, s.c, s.d + tOf (nth KT i) (nth W i) s, s.e, s.f, s.g⟩
def S8.add (s t : S8) : S8 := ⟨s.a + t.a, s.b + t.b, s.c + t.c, s.d + t.d, s.e + t.e, s.f + t.f, s.g + t.g, s.h + t.h⟩
def mixP (s : S8) (blk : List UInt8) : S8 := s.add (upto (rnd (wordsL blk)) 64 s)

/-- A hash: the state, the block's bytes, how many bytes there are. -/
structure HS where
  st : S8
  blk : List UInt8
  n : Nat

def put (h : HS) (x : UInt8) : HS :=
  if (h.n + 1) % 64 = 0 then ⟨mixP h.st (h.blk.set (h.n % 64) x), h.blk.set (h.n % 64) x, h.n + 1⟩ else ⟨h.st, h.blk.set (h.n % 64) x, h.n + 1⟩
def puts (h : HS) (l : List UInt8) : HS := l.foldl put h
def H0 : HS := ⟨S0, List.replicate 64 0, 0⟩

def be64 (n : Nat) (i : Nat) : UInt8 := UInt8.ofNat (n / 2 ^ (56 - 8 * i))
def tail8 (n : Nat) : Nat → List UInt8
  | 0 => []
  | k + 1 => tail8 n k ++ [be64 n k]
/-- How many noughts stand behind the 128. -/
def gap (n : Nat) : Nat := (119 - n % 64) % 64
def fillP (n : Nat) : List UInt8 := 128 :: List.replicate (gap n) 0 ++ tail8 (n * 8) 8

def byteOf (x : UInt32) (j : Nat) : UInt8 := UInt8.ofNat (x.toNat / 2 ^ (24 - 8 * j))
def outL (s : S8) : List UInt8 := s.list.flatMap fun x => [byteOf x 0, byteOf x 1, byteOf x 2, byteOf x 3]
def sumP (h : HS) : List UInt8 := outL (puts h (fillP h.n)).st
def ofP (l : List UInt8) : List UInt8 := sumP (puts H0 l)

theorem puts_append (h : HS) (a b : List UInt8) : puts h (a ++ b) = puts (puts h a) b := by simp [puts]
theorem put_n (h : HS) (x : UInt8) : (put h x).n = h.n + 1 := by unfold put; split <;> rfl
theorem put_blk (h : HS) (x : UInt8) : (put h x).blk = h.blk.set (h.n % 64) x := by unfold put; split <;> rfl
theorem puts_n (l : List UInt8) : ∀ h : HS, (puts h l).n = h.n + l.length := by
  induction l with
  | nil => intro h; rfl
  | cons x l ih => intro h; show (puts (put h x) l).n = _; rw [ih, put_n]; simp; omega
theorem puts_blk (l : List UInt8) : ∀ h : HS, (puts h l).blk.length = h.blk.length := by
  induction l with
  | nil => intro h; rfl
  | cons x l ih => intro h; show (puts (put h x) l).blk.length = _; rw [ih, put_blk]; simp
theorem upto_length {f : Nat → List UInt32 → List UInt32} (hf : ∀ i L, (f i L).length = L.length) (n : Nat) (L : List UInt32) : (upto f n L).length = L.length := by
  induction n with
  | zero => rfl
  | succ n ih => show (f n (upto f n L)).length = _; rw [hf, ih]
theorem fill_length (blk : List UInt8) (n : Nat) : (upto (fillStep blk) n zeros).length = 64 := by
  rw [upto_length (fun i L => by simp [fillStep])]; rfl
theorem exp_length (blk : List UInt8) (n : Nat) : (upto (fun i => expStep (16 + i)) n (fillL blk)).length = 64 := by
  rw [upto_length (fun i L => by simp [expStep])]; exact fill_length blk 64
theorem tail8_length (n k : Nat) : (tail8 n k).length = k := by
  induction k with
  | zero => rfl
  | succ k ih => simp [tail8, ih]
theorem outL_length (s : S8) : (outL s).length = 32 := rfl

theorem empty_digest : ofP [] = [227, 176, 196, 66, 152, 252, 28, 20, 154, 251, 244, 200, 153, 111, 185, 36, 39, 174, 65, 228, 100, 155, 147, 76, 164, 149, 153, 27, 120, 82, 184, 85] := by decide +kernel
end Go.Proofs.YtbklcelnnmhgkaaDoor
