
/- The sum of 32 bits as plain functions on UInt32: one shift, many shifts, the register behind bytes; the shift is linear and comes to nought of nought alone; four shifts by the table; what one turned bit does to the register. -/
import Derived.Test.YtpnnlhegncbfaaaGreatDoorGroupA
namespace Go.Proofs.YtpnnlhegncbfaaaGreatDoor
set_option maxRecDepth 20000

def upto {α : Type} (f : Nat → α → α) : Nat → α → α
  | 0, x => x
  | n + 1, x => f n (upto f n x)

def poly : UInt32 := 0xedb88320
/-- One shift. -/
def sh (x : UInt32) : UInt32 := (x >>> 1) ^^^ (if x.toBitVec.getLsbD 0 then poly else 0)
/-- So many shifts. -/
def sn : Nat → UInt32 → UInt32
  | 0, x => x
  | k + 1, x => sn k (sh x)

theorem sn_add (a b : Nat) (x : UInt32) : sn (a + b) x = sn b (sn a x) := by
  induction a generalizing x with
  | zero => rw [Nat.zero_add]; rfl
  | succ a ih => rw [Nat.succ_add]; exact ih (sh x)
theorem sn_succ (k : Nat) (x : UInt32) : sn (k + 1) x = sh (sn k x) := sn_add k 1 x

theorem shift_xor (x y : UInt32) : (x ^^^ y) >>> 1 = (x >>> 1) ^^^ (y >>> 1) := by
  apply UInt32.toBitVec_inj.1
  apply BitVec.eq_of_getLsbD_eq
  intro i hi
  simp
theorem sh_xor (x y : UInt32) : sh (x ^^^ y) = sh x ^^^ sh y := by
  unfold sh
  rw [shift_xor, UInt32.toBitVec_xor, BitVec.getLsbD_xor]
  generalize x >>> 1 = a
  generalize y >>> 1 = b
  cases x.toBitVec.getLsbD 0 <;> cases y.toBitVec.getLsbD 0 <;> simp
  · rw [UInt32.xor_assoc]
  · rw [UInt32.xor_assoc, UInt32.xor_assoc, UInt32.xor_comm b]
  · rw [UInt32.xor_assoc, ← UInt32.xor_assoc poly, UInt32.xor_comm poly, UInt32.xor_assoc b, UInt32.xor_self, UInt32.xor_zero]
theorem sn_xor (k : Nat) (x y : UInt32) : sn k (x ^^^ y) = sn k x ^^^ sn k y := by
  induction k generalizing x y with
  | zero => rfl
  | succ k ih => show sn k (sh (x ^^^ y)) = _; rw [sh_xor, ih]; rfl
theorem sh_zero : sh 0 = 0 := by decide
theorem sn_zero (k : Nat) : sn k 0 = 0 := by
  induction k with
  | zero => rfl
  | succ k ih => show sn k (sh 0) = 0; rw [sh_zero, ih]
theorem sh_none (x : UInt32) (h : sh x = 0) : x = 0 := by
  have h31 : (sh x).toBitVec.getLsbD 31 = x.toBitVec.getLsbD 0 := by
    unfold sh
    cases x.toBitVec.getLsbD 0 <;> simp [poly]
  rw [h] at h31
  have h0 : x.toBitVec.getLsbD 0 = false := by rw [← h31]; rfl
  unfold sh at h
  rw [h0] at h
  simp only [Bool.false_eq_true, if_false, UInt32.xor_zero] at h
  apply UInt32.toBitVec_inj.1
  apply BitVec.eq_of_getLsbD_eq
  intro i hi
  have hz : (0 : UInt32).toBitVec.getLsbD i = false := by simp
  rw [hz]
  match i, hi with
  | 0, _ => exact h0
  | j + 1, hj =>
    have : (x >>> 1).toBitVec.getLsbD j = false := by rw [h]; simp
    simpa [Nat.add_comm] using this
theorem sn_none (k : Nat) (x : UInt32) (h : sn k x = 0) : x = 0 := by
  induction k generalizing x with
  | zero => exact h
  | succ k ih => exact sh_none x (ih (sh x) h)

/-- The table. -/
def ctb : List UInt32 := [0x00000000, 0x1db71064, 0x3b6e20c8, 0x26d930ac, 0x76dc4190, 0x6b6b51f4, 0x4db26158, 0x5005713c, 0xedb88320, 0xf00f9344, 0xd6d6a3e8, 0xcb61b38c, 0x9b64c2b0, 0x86d3d2d4, 0xa00ae278, 0xbdbdf21c]
def nth (l : List UInt32) (i : Nat) : UInt32 := l.getD i 0
theorem tb_len : ctb.length = 16 := rfl
theorem tb_at : ∀ i : Fin 16, nth ctb i.val = sn 4 (UInt32.ofNat i.val) := by decide
def quarter (x : UInt32) : UInt32 := x >>> 4
def low4 (x : UInt32) : UInt32 := x &&& 15
/-- Four shifts by the table. -/
def nib (x : UInt32) : UInt32 := quarter x ^^^ nth ctb (low4 x).toNat

theorem low4_lt (x : UInt32) : (low4 x).toNat < 16 := by
  unfold low4
  rw [UInt32.toNat_and]
  exact Nat.lt_of_le_of_lt Nat.and_le_right (by decide)
theorem halves (x : UInt32) : x = (x &&& ~~~15) ^^^ low4 x := by
  apply UInt32.toBitVec_inj.1
  apply BitVec.eq_of_getLsbD_eq
  intro i hi
  simp only [low4, UInt32.toBitVec_xor, UInt32.toBitVec_and, UInt32.toBitVec_not, BitVec.getLsbD_xor, BitVec.getLsbD_and, BitVec.getLsbD_not]
  cases x.toBitVec.getLsbD i <;> cases ((15 : UInt32).toBitVec.getLsbD i) <;> simp [hi]
theorem high_four (x : UInt32) : sn 4 (x &&& ~~~15) = quarter x := by
  show sh (sh (sh (sh (x &&& ~~~15)))) = quarter x
  have b (k : Nat) (hk : k < 4) : (x &&& ~~~15).toBitVec.getLsbD k = false := by
    match k, hk with
    | 0, _ => simp
    | 1, _ => simp
    | 2, _ => simp
    | 3, _ => simp
  have e (y : UInt32) (h : y.toBitVec.getLsbD 0 = false) : sh y = y >>> 1 := by unfold sh; rw [h]; simp
  have s (y : UInt32) (k : Nat) : (y >>> 1).toBitVec.getLsbD k = y.toBitVec.getLsbD (k + 1) := by simp [Nat.add_comm]
  generalize hz : x &&& ~~~15 = z at b ⊢
  rw [e z (b 0 (by decide)), e (z >>> 1) (by rw [s]; exact b 1 (by decide)), e (z >>> 1 >>> 1) (by rw [s, s]; exact b 2 (by decide)), e (z >>> 1 >>> 1 >>> 1) (by rw [s, s, s]; exact b 3 (by decide)), ← hz]
  apply UInt32.toBitVec_inj.1
  apply BitVec.eq_of_getLsbD_eq
  intro i hi
  rw [s, s, s, s]
  unfold quarter
  have : (x >>> 4).toBitVec.getLsbD i = x.toBitVec.getLsbD (i + 4) := by simp [Nat.add_comm]
  rw [this]
  simp only [UInt32.toBitVec_and, UInt32.toBitVec_not, BitVec.getLsbD_and, BitVec.getLsbD_not]
  by_cases h : i + 4 < 32
  · have h15 : (15 : UInt32).toBitVec.getLsbD (i + 4) = false := by
      show Nat.testBit 15 (i + 4) = false
      exact Nat.testBit_lt_two_pow (by calc 15 < 2 ^ 4 := by decide
                                          _ ≤ 2 ^ (i + 4) := Nat.pow_le_pow_right (by decide) (by omega))
    rw [h15]; simp [h]
  · rw [BitVec.getLsbD_of_ge x.toBitVec _ (by omega)]; simp
theorem nib_eq (x : UInt32) : nib x = sn 4 x := by
  conv => rhs; rw [halves x]
  rw [sn_xor, high_four, nib, tb_at ⟨_, low4_lt x⟩]
  simp

/-- A byte as a number of 32 bits. -/
def b32 (x : UInt8) : UInt32 := UInt32.ofNat x.toNat
/-- The register behind one byte, and behind a text. -/
def byte (r : UInt32) (x : UInt8) : UInt32 := sn 8 (r ^^^ b32 x)
def reg (r : UInt32) (l : List UInt8) : UInt32 := l.foldl byte r
/-- Add. -/
def addP (s : UInt32) (l : List UInt8) : UInt32 := ~~~ (reg (~~~ s) l)

theorem byte_nib (r : UInt32) (x : UInt8) : nib (nib (r ^^^ b32 x)) = byte r x := by
  rw [nib_eq, nib_eq, ← sn_add]; rfl
theorem reg_more (r : UInt32) (l : List UInt8) (k : Nat) (x : UInt8) (h : l[k]? = some x) : reg r (l.take (k + 1)) = byte (reg r (l.take k)) x := by
  rw [List.take_add_one, h]
  simp [reg]
theorem reg_append (r : UInt32) (a b : List UInt8) : reg r (a ++ b) = reg (reg r a) b := by simp [reg]
theorem not_not (x : UInt32) : ~~~ (~~~ x) = x := UInt32.not_not
theorem addP_append (s : UInt32) (a b : List UInt8) : addP (addP s a) b = addP s (a ++ b) := by
  unfold addP
  rw [not_not, reg_append]
theorem addP_nil (s : UInt32) : addP s [] = s := not_not s
theorem turn_xor (x : UInt32) : x ^^^ 0xffffffff = ~~~ x := by
  apply UInt32.toBitVec_inj.1
  rw [UInt32.toBitVec_xor, UInt32.toBitVec_not]
  exact BitVec.xor_allOnes

theorem xor_right (a b c : UInt32) : (a ^^^ b) ^^^ c = (a ^^^ c) ^^^ b := by
  rw [UInt32.xor_assoc, UInt32.xor_comm b, ← UInt32.xor_assoc]
theorem reg_xor (r d : UInt32) (l : List UInt8) : reg (r ^^^ d) l = reg r l ^^^ sn (8 * l.length) d := by
  induction l generalizing r d with
  | nil => rfl
  | cons y ys ih =>
    show reg (byte (r ^^^ d) y) ys = reg (byte r y) ys ^^^ _
    have : byte (r ^^^ d) y = byte r y ^^^ sn 8 d := by unfold byte; rw [xor_right, sn_xor]
    rw [this, ih, ← sn_add]
    congr 2
    simp [Nat.mul_add, Nat.add_comm]
theorem b32_xor (x y : UInt8) : b32 (x ^^^ y) = b32 x ^^^ b32 y := by
  apply UInt32.toNat_inj.1
  have hx : x.toNat < 256 := x.toNat_lt
  have hy : y.toNat < 256 := y.toNat_lt
  have hz : (x ^^^ y).toNat < 256 := (x ^^^ y).toNat_lt
  simp only [b32, UInt32.toNat_xor, UInt32.toNat_ofNat', UInt8.toNat_xor] at hz ⊢
  rw [Nat.mod_eq_of_lt (by omega), Nat.mod_eq_of_lt (by omega), Nat.mod_eq_of_lt (by omega)]

/-- A byte with one bit set. -/
def cbit8 (s : Nat) : UInt8 := UInt8.ofNat (2 ^ s)
theorem bit8_sh : ∀ s : Fin 8, sn 8 (b32 (cbit8 s.val)) = sn (8 - s.val) 1 := by decide
/-- What one turned bit does to the register. -/
theorem reg_turn (r : UInt32) (l : List UInt8) (q s : Nat) (hq : q < l.length) (hs : s < 8) :
    reg r (l.set q (l.getD q 0 ^^^ cbit8 s)) = reg r l ^^^ sn (8 * (l.length - q - 1) + (8 - s)) 1 := by
  induction l generalizing r q with
  | nil => simp at hq
  | cons y ys ih =>
    match q, hq with
    | 0, _ =>
      show reg (byte r (y ^^^ cbit8 s)) ys = reg (byte r y) ys ^^^ _
      have : byte r (y ^^^ cbit8 s) = byte r y ^^^ sn (8 - s) 1 := by
        unfold byte
        rw [b32_xor, ← UInt32.xor_assoc, sn_xor, bit8_sh ⟨s, hs⟩]
      rw [this, reg_xor, ← sn_add]
      congr 2
      simp [Nat.add_comm]
    | q + 1, hq =>
      show reg (byte r y) (ys.set q (ys.getD q 0 ^^^ cbit8 s)) = reg (byte r y) ys ^^^ _
      rw [ih (byte r y) q (by simpa using hq)]
      congr 2
      simp

/-- One bit alone, and the low bits of a number, bit by bit. -/
def one (i : Nat) : UInt32 := UInt32.ofNat (2 ^ i)
def bitOf (t : UInt32) (i : Nat) : Bool := t.toNat / 2 ^ i % 2 == 1
def low (t : UInt32) : Nat → UInt32
  | 0 => 0
  | i + 1 => if bitOf t i then low t i ^^^ one i else low t i
theorem one_sh : ∀ j : Fin 31, sh (one (j.val + 1)) = one j.val := by decide
theorem sn_one (j m : Nat) (hj : j < 32) (hm : j ≤ m) : sn m (one j) = sn (m - j) 1 := by
  induction j generalizing m with
  | zero => rfl
  | succ j ih =>
    obtain ⟨m, rfl⟩ : ∃ k, m = k + 1 := ⟨m - 1, by omega⟩
    show sn m (sh (one (j + 1))) = _
    rw [one_sh ⟨j, by omega⟩, ih m (by omega) (by omega)]
    congr 1
    omega
theorem low_lt (t : UInt32) (i : Nat) (hi : i ≤ 32) : (low t i).toNat < 2 ^ i := by
  induction i with
  | zero => exact (by decide : (0 : UInt32).toNat < 1)
  | succ i ih =>
    have h1 : (low t i).toNat < 2 ^ (i + 1) := Nat.lt_of_lt_of_le (ih (by omega)) (Nat.pow_le_pow_right (by decide) (by omega))
    unfold low
    split
    · rw [UInt32.toNat_xor]
      refine Nat.xor_lt_two_pow h1 ?_
      unfold one
      rw [UInt32.toNat_ofNat', Nat.mod_eq_of_lt (Nat.pow_lt_pow_right (by decide) (by omega))]
      exact Nat.pow_lt_pow_right (by decide) (by omega)
    · exact h1
theorem low_some (t : UInt32) (i : Nat) (hi : i < 32) : low t i ^^^ one i ≠ 0 := by
  intro h
  have he : low t i = one i := by
    have := congrArg (· ^^^ one i) h
    simp only [UInt32.xor_assoc, UInt32.xor_self, UInt32.xor_zero, UInt32.zero_xor] at this
    exact this
  have := low_lt t i (by omega)
  rw [he, one, UInt32.toNat_ofNat', Nat.mod_eq_of_lt (Nat.pow_lt_pow_right (by decide) (by omega))] at this
  omega
/-- Whether a bit was turned so far. -/
def some' (t : UInt32) (i : Nat) : Bool := decide (low t i ≠ 0)
theorem some_zero (t : UInt32) : some' t 0 = false := rfl
theorem some_true (t : UInt32) (i : Nat) (hi : i < 32) (h : bitOf t i = true) : some' t (i + 1) = true := by
  unfold some' low
  rw [if_pos h]
  exact decide_eq_true (low_some t i hi)
theorem some_same (t : UInt32) (i : Nat) (h : bitOf t i = false) : some' t (i + 1) = some' t i := by
  unfold some'
  rw [low, if_neg (by simp [h])]

/-- What the turning of bits keeps: the length, and how far the register is from that of the text. -/
structure Turned (b : List UInt8) (first : Nat) (t : UInt32) (i : Nat) (x : List UInt8) : Prop where
  len : x.length = b.length
  far : ∀ r, reg r x = reg r b ^^^ sn (8 * b.length - first) (low t i)
theorem Turned.start (b : List UInt8) (first : Nat) (t : UInt32) : Turned b first t 0 b := ⟨rfl, fun r => by rw [low, sn_zero, UInt32.xor_zero]⟩
theorem Turned.stay {b : List UInt8} {first : Nat} {t : UInt32} {i : Nat} {x : List UInt8} (h : Turned b first t i x) (hb : bitOf t i = false) : Turned b first t (i + 1) x :=
  ⟨h.len, fun r => by rw [low, if_neg (by simp [hb])]; exact h.far r⟩
theorem Turned.turn {b : List UInt8} {first : Nat} {t : UInt32} {i : Nat} {x : List UInt8} (h : Turned b first t i x) (hb : bitOf t i = true) (hi : i < 32) (hp : first + i < 8 * b.length) :
    Turned b first t (i + 1) (x.set ((first + i) / 8) (x.getD ((first + i) / 8) 0 ^^^ cbit8 ((first + i) % 8))) := by
  refine ⟨by rw [List.length_set]; exact h.len, fun r => ?_⟩
  rw [reg_turn r x _ _ (by rw [h.len]; omega) (by omega), h.far r, h.len, low, if_pos hb, sn_xor, sn_one i _ hi (by omega), UInt32.xor_assoc]
  congr 3
  omega
/-- The two sums differ just where a bit was turned. -/
theorem Turned.tells {b : List UInt8} {first : Nat} {t : UInt32} {i : Nat} {x : List UInt8} (h : Turned b first t i x) (s : UInt32) : (addP s x != addP s b) = some' t i := by
  unfold some' addP
  rw [h.far]
  generalize hr : reg (~~~ s) b = r
  by_cases hl : low t i = 0
  · rw [hl, sn_zero, UInt32.xor_zero]; simp
  · have h1 : r ^^^ sn (8 * b.length - first) (low t i) ≠ r := by
      intro he
      apply hl
      apply sn_none (8 * b.length - first)
      have := congrArg (r ^^^ ·) he
      simp only [← UInt32.xor_assoc, UInt32.xor_self, UInt32.zero_xor] at this
      exact this
    have h2 : ~~~ (r ^^^ sn (8 * b.length - first) (low t i)) ≠ ~~~ r := fun he => h1 (by rw [← not_not (r ^^^ _), he, not_not])
    simp [hl, h2]
end Go.Proofs.YtpnnlhegncbfaaaGreatDoor
