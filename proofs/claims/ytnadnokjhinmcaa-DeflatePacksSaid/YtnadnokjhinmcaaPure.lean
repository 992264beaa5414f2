
/- Bytes and bits as numbers: the low one first. No program is named here. -/
import Derived.Test.YtnadnokjhinmcaaWords
namespace Go.Proofs.Ytnadnokjhinmcaa

/-- The number of bytes, the first one the lowest. -/
def numL : List UInt8 → Nat
  | [] => 0
  | x :: r => x.toNat + 256 * numL r
/-- The number of bits, each a byte of its own, the first one the lowest. -/
def numB : List UInt8 → Nat
  | [] => 0
  | x :: r => x.toNat + 2 * numB r

theorem pow8 (n : Nat) : 2 ^ (8 * n) = 256 ^ n := by rw [Nat.pow_mul]
theorem numL_append (a b : List UInt8) : numL (a ++ b) = numL a + 2 ^ (8 * a.length) * numL b := by
  induction a with
  | nil => simp [numL]
  | cons x a ih =>
    simp only [List.cons_append, numL, ih, List.length_cons]
    rw [show 8 * (a.length + 1) = 8 * a.length + 8 by omega, Nat.pow_add, Nat.mul_add, ← Nat.mul_assoc, Nat.add_assoc, Nat.mul_comm (2 ^ (8 * a.length)) (2 ^ 8)]
theorem numL_lt (l : List UInt8) : numL l < 2 ^ (8 * l.length) := by
  induction l with
  | nil => simp [numL]
  | cons x l ih =>
    simp only [numL, List.length_cons]
    rw [show 8 * (l.length + 1) = 8 * l.length + 8 by omega, Nat.pow_add]
    have : x.toNat < 256 := x.toNat_lt
    generalize 2 ^ (8 * l.length) = P at ih ⊢
    omega
theorem numL_inj : ∀ (a b : List UInt8), a.length = b.length → numL a = numL b → a = b
  | [], [], _, _ => rfl
  | x :: a, y :: b, hl, hn => by
    simp only [numL] at hn
    have hx : x.toNat < 256 := x.toNat_lt
    have hy : y.toNat < 256 := y.toNat_lt
    have h1 : x = y := UInt8.toNat_inj.1 (by omega)
    subst h1
    rw [numL_inj a b (by simpa using hl) (by omega)]
theorem numL_part (l : List UInt8) (f n : Nat) (h : f + n ≤ l.length) : numL ((l.drop f).take n) = numL l / 2 ^ (8 * f) % 2 ^ (8 * n) := by
  have e1 : l = l.take f ++ ((l.drop f).take n ++ (l.drop f).drop n) := by rw [List.take_append_drop, List.take_append_drop]
  have h1 := numL_lt (l.take f)
  have h2 := numL_lt ((l.drop f).take n)
  have l1 : (l.take f).length = f := by rw [List.length_take]; omega
  have l2 : ((l.drop f).take n).length = n := by rw [List.length_take, List.length_drop]; omega
  have hs : numL l = numL (l.take f) + 2 ^ (8 * f) * (numL ((l.drop f).take n) + 2 ^ (8 * n) * numL ((l.drop f).drop n)) := by
    conv => lhs; rw [e1]
    rw [numL_append, numL_append, l1, l2]
  rw [l1] at h1
  rw [l2] at h2
  rw [hs, Nat.add_mul_div_left _ _ (Nat.two_pow_pos _), Nat.div_eq_of_lt h1, Nat.zero_add, Nat.add_mul_mod_self_left, Nat.mod_eq_of_lt h2]
theorem numL_at (l : List UInt8) (k : Nat) (x : UInt8) (h : l[k]? = some x) : x.toNat = numL l / 2 ^ (8 * k) % 256 := by
  obtain ⟨hk, rfl⟩ := List.getElem?_eq_some_iff.1 h
  have := numL_part l k 1 (by omega)
  rw [List.take_one, List.head?_drop, h] at this
  simpa [numL] using this
theorem numL_set (l : List UInt8) (k : Nat) (x y : UInt8) (h : l[k]? = some x) : numL (l.set k y) + x.toNat * 2 ^ (8 * k) = numL l + y.toNat * 2 ^ (8 * k) := by
  induction l generalizing k with
  | nil => simp at h
  | cons z l ih =>
    cases k with
    | zero => simp at h; subst h; simp [numL]; omega
    | succ k =>
      have := ih k (by simpa using h)
      simp only [List.set_cons_succ, numL]
      rw [show 8 * (k + 1) = 8 * k + 8 by omega, Nat.pow_add, ← Nat.mul_assoc, ← Nat.mul_assoc]
      omega

theorem numB_append (a b : List UInt8) : numB (a ++ b) = numB a + 2 ^ a.length * numB b := by
  induction a with
  | nil => simp [numB]
  | cons x a ih =>
    simp only [List.cons_append, numB, ih, List.length_cons]
    rw [Nat.pow_succ, Nat.mul_add, ← Nat.mul_assoc, Nat.add_assoc, Nat.mul_comm (2 ^ a.length) 2]
/-- Each is a bit. -/
def Bin (m : List UInt8) : Prop := ∀ b ∈ m, b.toNat < 2
theorem Bin.nil : Bin [] := fun b h => by cases h
theorem Bin.append {a b : List UInt8} (h : Bin a) (h' : Bin b) : Bin (a ++ b) := fun x hx => by
  rcases List.mem_append.1 hx with h1 | h1
  · exact h x h1
  · exact h' x h1
theorem Bin.take {a : List UInt8} (h : Bin a) (k : Nat) : Bin (a.take k) := fun x hx => h x (List.mem_of_mem_take hx)
theorem Bin.drop {a : List UInt8} (h : Bin a) (k : Nat) : Bin (a.drop k) := fun x hx => h x (List.mem_of_mem_drop hx)
theorem Bin.at {a : List UInt8} (h : Bin a) {k : Nat} {x : UInt8} (hx : a[k]? = some x) : x.toNat < 2 := h x (List.mem_of_getElem? hx)
theorem numB_lt {l : List UInt8} (h : Bin l) : numB l < 2 ^ l.length := by
  induction l with
  | nil => simp [numB]
  | cons x l ih =>
    simp only [numB, List.length_cons]
    have h1 := h x (by simp)
    have h2 := ih (fun b hb => h b (List.mem_cons_of_mem _ hb))
    rw [Nat.pow_succ]
    generalize 2 ^ l.length = P at h2 ⊢
    omega
theorem numB_part {l : List UInt8} (hb : Bin l) (f n : Nat) (h : f + n ≤ l.length) : numB ((l.drop f).take n) = numB l / 2 ^ f % 2 ^ n := by
  have e1 : l = l.take f ++ ((l.drop f).take n ++ (l.drop f).drop n) := by rw [List.take_append_drop, List.take_append_drop]
  have h1 := numB_lt (hb.take f)
  have h2 := numB_lt ((hb.drop f).take n)
  have l1 : (l.take f).length = f := by rw [List.length_take]; omega
  have l2 : ((l.drop f).take n).length = n := by rw [List.length_take, List.length_drop]; omega
  have hs : numB l = numB (l.take f) + 2 ^ f * (numB ((l.drop f).take n) + 2 ^ n * numB ((l.drop f).drop n)) := by
    conv => lhs; rw [e1]
    rw [numB_append, numB_append, l1, l2]
  rw [l1] at h1
  rw [l2] at h2
  rw [hs, Nat.add_mul_div_left _ _ (Nat.two_pow_pos _), Nat.div_eq_of_lt h1, Nat.zero_add, Nat.add_mul_mod_self_left, Nat.mod_eq_of_lt h2]
theorem numB_drop {l : List UInt8} {k : Nat} {x : UInt8} (h : l[k]? = some x) : numB (l.drop k) = x.toNat + 2 * numB (l.drop (k + 1)) := by
  obtain ⟨hk, rfl⟩ := List.getElem?_eq_some_iff.1 h
  rw [List.drop_eq_getElem_cons hk]
  rfl

/-- n bits of the number N from the bit p on. -/
def fld (N p n : Nat) : Nat := N / 2 ^ p % 2 ^ n
theorem fld_lt (N p n : Nat) : fld N p n < 2 ^ n := Nat.mod_lt _ (Nat.two_pow_pos n)

/-- A number's bit. -/
def bitN (x k : Nat) : UInt8 := UInt8.ofNat (x / 2 ^ k % 2)
theorem bitN_toNat (x k : Nat) : (bitN x k).toNat = x / 2 ^ k % 2 := by
  unfold bitN; rw [UInt8.toNat_ofNat']; have : x / 2 ^ k % 2 < 2 := Nat.mod_lt _ (by decide); omega
theorem bitN_lt (x k : Nat) : (bitN x k).toNat < 2 := by rw [bitN_toNat]; exact Nat.mod_lt _ (by decide)
/-- A number's n lowest bits, the lowest one first. -/
def lowB (x n : Nat) : List UInt8 := (List.range n).map (bitN x)
theorem lowB_length (x n : Nat) : (lowB x n).length = n := by simp [lowB]
theorem lowB_succ (x n : Nat) : lowB x (n + 1) = lowB x n ++ [bitN x n] := by simp [lowB, List.range_succ]
theorem lowB_at (x n k : Nat) (h : k < n) : (lowB x n)[k]? = some (bitN x k) := by simp [lowB, List.getElem?_range h]
theorem lowB_take (x n k : Nat) (h : k ≤ n) : (lowB x n).take k = lowB x k := by
  unfold lowB; rw [← List.map_take, List.take_range, Nat.min_eq_left h]
theorem bin_lowB (x n : Nat) : Bin (lowB x n) := fun b hb => by
  obtain ⟨k, _, rfl⟩ := List.mem_map.1 hb
  exact bitN_lt x k
theorem numB_lowB (x n : Nat) : numB (lowB x n) = x % 2 ^ n := by
  induction n with
  | zero => simp [lowB, numB, Nat.mod_one]
  | succ n ih =>
    rw [lowB_succ, numB_append, ih, lowB_length, Nat.mod_pow_succ]
    simp [numB, bitN_toNat]
theorem bitN_half (x k : Nat) : bitN (x / 2) k = bitN x (k + 1) := by
  unfold bitN; rw [Nat.div_div_eq_div_mul, Nat.pow_succ, Nat.mul_comm 2]
theorem lowB_cons (x n : Nat) : lowB x (n + 1) = bitN x 0 :: lowB (x / 2) n := by
  unfold lowB
  rw [List.range_succ_eq_map, List.map_cons, List.map_map]
  congr 1
  apply List.map_congr_left
  intro k _
  exact (bitN_half x k).symm

/-- The program's way to turn n bits of x round, ahead of them t. -/
def turn (t x : Nat) : Nat → Nat
  | 0 => t
  | n + 1 => turn (2 * t + x % 2) (x / 2) n
theorem turn_ahead (t x n : Nat) : turn t x n = t * 2 ^ n + turn 0 x n := by
  induction n generalizing t x with
  | zero => simp [turn]
  | succ n ih =>
    rw [turn, turn, ih (2 * t + x % 2), ih (2 * 0 + x % 2), Nat.pow_succ]
    simp only [Nat.mul_zero, Nat.zero_add, Nat.add_mul]
    rw [Nat.mul_comm 2 t, Nat.mul_assoc, Nat.mul_comm 2 (2 ^ n), Nat.add_assoc]
theorem turn_rev (x n : Nat) : turn 0 x n = numB (lowB x n).reverse := by
  induction n generalizing x with
  | zero => rfl
  | succ n ih =>
    rw [turn, turn_ahead, lowB_cons, List.reverse_cons, numB_append, ih, List.length_reverse, lowB_length]
    simp [numB, bitN_toNat]
    rw [Nat.mul_comm, Nat.add_comm]
theorem bin_rev {m : List UInt8} (h : Bin m) : Bin m.reverse := fun b hb => h b (List.mem_reverse.1 hb)
theorem turn_lt (x n : Nat) : turn 0 x n < 2 ^ n := by
  rw [turn_rev]
  have := numB_lt (bin_rev (bin_lowB x n))
  rwa [List.length_reverse, lowB_length] at this
theorem turn_snoc (t x n : Nat) : turn t x (n + 1) = 2 * turn t x n + x / 2 ^ n % 2 := by
  induction n generalizing t x with
  | zero => simp [turn]
  | succ n ih =>
    rw [turn, ih, turn]
    rw [Nat.div_div_eq_div_mul, ← Nat.pow_succ']
theorem rev_at (x n k : Nat) (h : k < n) : (lowB x n).reverse[k]? = some (bitN x (n - 1 - k)) := by
  rw [List.getElem?_reverse (by rw [lowB_length]; exact h), lowB_length, lowB_at _ _ _ (by omega)]

/-- The bits of bytes. -/
def bitsL (l : List UInt8) : List UInt8 := l.flatMap fun x => lowB x.toNat 8
theorem bitsL_append (a b : List UInt8) : bitsL (a ++ b) = bitsL a ++ bitsL b := by simp [bitsL]
theorem bitsL_one (x : UInt8) : bitsL [x] = lowB x.toNat 8 := by simp [bitsL]
theorem bitsL_length (l : List UInt8) : (bitsL l).length = 8 * l.length := by
  induction l with
  | nil => rfl
  | cons x l ih =>
    rw [show x :: l = [x] ++ l from rfl, bitsL_append, List.length_append, ih, bitsL_one, lowB_length]
    simp; omega
theorem bin_bitsL (l : List UInt8) : Bin (bitsL l) := fun b hb => by
  obtain ⟨x, _, h⟩ := List.mem_flatMap.1 hb
  exact bin_lowB _ _ b h
theorem numB_bitsL (l : List UInt8) : numB (bitsL l) = numL l := by
  induction l with
  | nil => rfl
  | cons x l ih =>
    rw [show x :: l = [x] ++ l from rfl, bitsL_append, numB_append, ih, bitsL_one, numB_lowB, lowB_length]
    have : x.toNat < 256 := x.toNat_lt
    show x.toNat % 256 + 256 * numL l = x.toNat + 256 * numL l
    omega

theorem or_add (x y r : Nat) (h : x < 2 ^ r) : x ||| y * 2 ^ r = x + y * 2 ^ r := by
  rw [Nat.mul_comm, Nat.or_comm, ← Nat.two_pow_add_eq_or_of_lt h, Nat.add_comm]
end Go.Proofs.Ytnadnokjhinmcaa
