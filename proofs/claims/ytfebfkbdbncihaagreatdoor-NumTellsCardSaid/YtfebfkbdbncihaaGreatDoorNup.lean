/- Floats as words: their order, and that it is one. -/
import Ieee.Arith
import Derived.Lib.Hide
namespace Go.Proofs.YtfebfkbdbncihaaGreatDoor
set_option maxRecDepth 20000

/-- The magnitude of a rung, in units of the least one. -/
def mr (r : Nat) : Nat := if r < 2 ^ 52 then r else (2 ^ 52 + r % 2 ^ 52) * 2 ^ (r / 2 ^ 52 - 1)
theorem mr_step (r : Nat) : mr r < mr (r + 1) := by
  unfold mr
  by_cases h : r + 1 < 2 ^ 52
  · rw [if_pos h, if_pos (by omega)]; omega
  · rw [if_neg h]
    by_cases h1 : r < 2 ^ 52
    · rw [if_pos h1]
      have e : r + 1 = 2 ^ 52 := by omega
      rw [e]; simp; omega
    · rw [if_neg h1]
      by_cases h2 : (r + 1) % 2 ^ 52 = 0
      · have e1 : r % 2 ^ 52 = 2 ^ 52 - 1 := by omega
        have e2 : (r + 1) / 2 ^ 52 - 1 = (r / 2 ^ 52 - 1) + 1 := by omega
        have e3 : 2 ^ (r / 2 ^ 52 - 1 + 1) = 2 ^ (r / 2 ^ 52 - 1) * 2 := Nat.pow_succ ..
        rw [h2, e1, e2, e3]
        have hp : 0 < 2 ^ (r / 2 ^ 52 - 1) := Nat.two_pow_pos _
        generalize 2 ^ (r / 2 ^ 52 - 1) = p at hp
        omega
      · have e1 : (r + 1) % 2 ^ 52 = r % 2 ^ 52 + 1 := by omega
        have e2 : (r + 1) / 2 ^ 52 = r / 2 ^ 52 := by omega
        rw [e1, e2]
        exact Nat.mul_lt_mul_of_pos_right (by omega) (Nat.two_pow_pos _)
theorem mr_lt {a b : Nat} (h : a < b) : mr a < mr b := by
  induction b with
  | zero => omega
  | succ b ih =>
    by_cases e : a = b
    · subst e; exact mr_step a
    · exact Nat.lt_trans (ih (by omega)) (mr_step b)
theorem mr_inj {a b : Nat} (h : mr a = mr b) : a = b := by
  rcases Nat.lt_trichotomy a b with h1 | h1 | h1
  · have := mr_lt h1; omega
  · exact h1
  · have := mr_lt h1; omega
theorem mr_le {a b : Nat} : mr a ≤ mr b ↔ a ≤ b := by
  constructor
  · intro h
    by_cases e : b < a
    · have := mr_lt e; omega
    · omega
  · intro h
    by_cases e : a = b
    · subst e; exact Nat.le_refl _
    · exact Nat.le_of_lt (mr_lt (by omega))
theorem mr_zero : mr 0 = 0 := rfl
def infR : Nat := 2047 * 2 ^ 52
/-- A word's rung, whether it is below 0, whether it is no number. -/
def rung (x : Nat) : Nat := x % 2 ^ 63
def negW (x : Nat) : Bool := x / 2 ^ 63 % 2 == 1
def nanW (x : Nat) : Bool := decide (infR < rung x)
def rank (x : Nat) : Int := if negW x then -(mr (rung x) : Int) else (mr (rung x) : Int)
theorem read_def (x : Nat) : Ieee.double.read x = if rung x < 2 ^ 52 then .number (negW x) (rung x) (-1074)
    else if rung x < infR then .number (negW x) (2 ^ 52 + rung x % 2 ^ 52) (-1074 + (rung x / 2 ^ 52 - 1 : Nat))
    else if rung x = infR then .infinity (negW x) else .nan (negW x) (rung x - infR) := rfl
theorem signed_rank (n : Bool) (m k : Nat) : Ieee.signed n m k = if n then -((m * 2 ^ k : Nat) : Int) else ((m * 2 ^ k : Nat) : Int) := by
  unfold Ieee.signed; rw [Nat.shiftLeft_eq]
/-- What is a number, as a multiple of the least one. -/
theorem read_num (x : Nat) (h : rung x < infR) : ∃ m k, Ieee.double.read x = .number (negW x) m (-1074 + (k : Nat)) ∧ m * 2 ^ k = mr (rung x) := by
  rw [read_def]
  by_cases h1 : rung x < 2 ^ 52
  · rw [if_pos h1]
    exact ⟨rung x, 0, rfl, by unfold mr; rw [if_pos h1]; omega⟩
  · rw [if_neg h1, if_pos h]
    exact ⟨_, _, rfl, by unfold mr; rw [if_neg h1]⟩
theorem cmp_scale (a b : Int) (p : Int) (hp : 0 < p) : compare (a * p) (b * p) = compare a b := by
  rcases Int.lt_trichotomy a b with h | h | h
  · rw [Int.compare_eq_lt.2 h, Int.compare_eq_lt.2 (Int.mul_lt_mul_of_pos_right h hp)]
  · subst h; rw [Int.compare_eq_eq.2 rfl, Int.compare_eq_eq.2 rfl]
  · rw [Int.compare_eq_gt.2 h, Int.compare_eq_gt.2 (Int.mul_lt_mul_of_pos_right h hp)]
theorem signed_scale (s : Bool) (m k b : Nat) (h : b ≤ k) : Ieee.signed s m k = Ieee.signed s m (k - b) * (2 ^ b : Nat) := by
  rw [signed_rank, signed_rank]
  have e : m * 2 ^ k = m * 2 ^ (k - b) * 2 ^ b := by rw [Nat.mul_assoc, ← Nat.pow_add]; congr 2; omega
  rw [e]
  cases s
  · simp only [Bool.false_eq_true, if_false]; exact Int.natCast_mul _ _
  · simp only [if_true]; rw [Int.neg_mul, ← Int.natCast_mul]
theorem rank_in (x : Nat) (h : rung x < infR) : -(mr infR : Int) < rank x ∧ rank x < (mr infR : Int) := by
  have := mr_lt h
  unfold rank
  split <;> omega
theorem infR_pos : 0 < mr infR := by have h := mr_lt (show 0 < infR by decide); rw [mr_zero] at h; exact h
theorem read_inf (x : Nat) (h : rung x = infR) : Ieee.double.read x = .infinity (negW x) := by rw [read_def, h]; rfl
theorem rank_inf (x : Nat) (h : rung x = infR) : rank x = if negW x then -(mr infR : Int) else (mr infR : Int) := by unfold rank; rw [h]
theorem order_rank (x y : Nat) (hx : nanW x = false) (hy : nanW y = false) : Ieee.double.order x y = some (compare (rank x) (rank y)) := by
  unfold nanW at hx hy
  have hx := of_decide_eq_false hx
  have hy := of_decide_eq_false hy
  unfold Ieee.Format.order
  have hpos := infR_pos
  by_cases ex : rung x = infR
  · rw [read_inf x ex, rank_inf x ex]
    by_cases ey : rung y = infR
    · rw [read_inf y ey, rank_inf y ey]
      generalize mr infR = M at hpos
      cases negW x <;> cases negW y <;> simp only [Ieee.Datum.order, Bool.false_eq_true, if_false, if_true]
      · rw [Int.compare_eq_eq.2 rfl]; rfl
      · rw [Int.compare_eq_gt.2 (by omega)]; rfl
      · rw [Int.compare_eq_lt.2 (by omega)]; rfl
      · rw [Int.compare_eq_eq.2 rfl]; rfl
    · obtain ⟨m, k, e, _⟩ := read_num y (by omega)
      have := rank_in y (by omega)
      rw [e]
      generalize mr infR = M at hpos this
      cases negW x <;> simp only [Ieee.Datum.order, Bool.false_eq_true, if_false, if_true]
      · rw [Int.compare_eq_gt.2 (by omega)]
      · rw [Int.compare_eq_lt.2 (by omega)]
  · obtain ⟨m, k, e, em⟩ := read_num x (by omega)
    rw [e]
    by_cases ey : rung y = infR
    · rw [read_inf y ey, rank_inf y ey]
      have := rank_in x (by omega)
      generalize mr infR = M at hpos this
      cases negW y <;> simp only [Ieee.Datum.order, Bool.false_eq_true, if_false, if_true]
      · rw [Int.compare_eq_lt.2 (by omega)]
      · rw [Int.compare_eq_gt.2 (by omega)]
    · obtain ⟨n, l, e2, en⟩ := read_num y (by omega)
      rw [e2]
      simp only [Ieee.Datum.order]
      have rx : rank x = Ieee.signed (negW x) m k := by rw [signed_rank]; unfold rank; rw [em]
      have ry : rank y = Ieee.signed (negW y) n l := by rw [signed_rank]; unfold rank; rw [en]
      rw [rx, ry]
      have e3 : ((-1074 : Int) + (k : Nat) - min ((-1074 : Int) + (k : Nat)) ((-1074 : Int) + (l : Nat))).toNat = k - min k l := by omega
      have e4 : ((-1074 : Int) + (l : Nat) - min ((-1074 : Int) + (k : Nat)) ((-1074 : Int) + (l : Nat))).toNat = l - min k l := by omega
      rw [e3, e4, signed_scale (negW x) m k (min k l) (by omega), signed_scale (negW y) n l (min k l) (by omega), cmp_scale _ _ _ (by exact_mod_cast Nat.two_pow_pos _)]
theorem read_nan (x : Nat) (h : nanW x = true) : Ieee.double.read x = .nan (negW x) (rung x - infR) := by
  unfold nanW at h
  have h := of_decide_eq_true h
  rw [read_def, if_neg (by unfold infR at h; omega), if_neg (by omega), if_neg (by omega)]
theorem order_nan1 (x y : Nat) (h : nanW x = true) : Ieee.double.order x y = none := by
  unfold Ieee.Format.order; rw [read_nan x h]; rfl
theorem order_nan2 (x y : Nat) (h : nanW y = true) : Ieee.double.order x y = none := by
  unfold Ieee.Format.order; rw [read_nan y h]; cases Ieee.double.read x <;> rfl
/-- Where a word stands among all that are numbers. -/
def key (x : Nat) : Int := if negW x then -(rung x : Int) - 1 else (rung x : Int)
def lessW (x y : Nat) : Bool := if nanW x then false else if nanW y then true else decide (key x < key y)
def zeroW (x : Nat) : Bool := decide (rung x = 0)
theorem order_zero (x : Nat) (h : nanW x = false) : (Ieee.double.order x 0 == some .eq) = zeroW x := by
  rw [order_rank x 0 h rfl]
  have e0 : rank 0 = 0 := rfl
  rw [e0]
  unfold zeroW
  by_cases h0 : rung x = 0
  · have : rank x = 0 := by unfold rank; rw [h0]; simp [mr_zero]
    rw [this, Int.compare_eq_eq.2 rfl, decide_eq_true h0]; rfl
  · have h1 : 0 < mr (rung x) := by have := mr_lt (Nat.pos_of_ne_zero h0); rw [mr_zero] at this; exact this
    rw [decide_eq_false h0]
    by_cases hn : negW x = true
    · rw [Int.compare_eq_lt.2 (by unfold rank; rw [if_pos hn]; omega)]; rfl
    · rw [Int.compare_eq_gt.2 (by unfold rank; rw [if_neg hn]; omega)]; rfl
theorem order_lt (x y : Nat) (hx : nanW x = false) (hy : nanW y = false) (h0 : (zeroW x && zeroW y) = false) : (Ieee.double.order x y == some .lt) = decide (key x < key y) := by
  rw [order_rank x y hx hy]
  have h1 : rank x < rank y ↔ key x < key y := by
    have a1 : mr (rung x) = 0 ↔ rung x = 0 := ⟨fun h => mr_inj (h.trans mr_zero.symm), fun h => by rw [h, mr_zero]⟩
    have a2 : mr (rung y) = 0 ↔ rung y = 0 := ⟨fun h => mr_inj (h.trans mr_zero.symm), fun h => by rw [h, mr_zero]⟩
    have a3 : mr (rung x) ≤ mr (rung y) ↔ rung x ≤ rung y := mr_le
    have a4 : mr (rung y) ≤ mr (rung x) ↔ rung y ≤ rung x := mr_le
    unfold zeroW at h0
    have a5 : ¬ (rung x = 0 ∧ rung y = 0) := by
      rintro ⟨b1, b2⟩
      rw [decide_eq_true b1, decide_eq_true b2] at h0; cases h0
    unfold rank key
    split <;> split <;> omega
  by_cases h : key x < key y
  · rw [decide_eq_true h, Int.compare_eq_lt.2 (h1.2 h)]; rfl
  · rw [decide_eq_false h]
    have h2 : ¬ rank x < rank y := fun h3 => h (h1.1 h3)
    rcases Int.lt_trichotomy (rank x) (rank y) with h3 | h3 | h3
    · exact absurd h3 h2
    · rw [Int.compare_eq_eq.2 h3]; rfl
    · rw [Int.compare_eq_gt.2 h3]; rfl
theorem order_eq (x y : Nat) (hx : nanW x = false) (hy : nanW y = false) : (Ieee.double.order x y == some .eq) = ((zeroW x && zeroW y) || decide (key x = key y)) := by
  rw [order_rank x y hx hy]
  have a1 : mr (rung x) = 0 ↔ rung x = 0 := ⟨fun h => mr_inj (h.trans mr_zero.symm), fun h => by rw [h, mr_zero]⟩
  have a2 : mr (rung y) = 0 ↔ rung y = 0 := ⟨fun h => mr_inj (h.trans mr_zero.symm), fun h => by rw [h, mr_zero]⟩
  have a3 : mr (rung x) ≤ mr (rung y) ↔ rung x ≤ rung y := mr_le
  have a4 : mr (rung y) ≤ mr (rung x) ↔ rung y ≤ rung x := mr_le
  have h1 : rank x = rank y ↔ ((rung x = 0 ∧ rung y = 0) ∨ key x = key y) := by
    unfold rank key
    split <;> split <;> omega
  unfold zeroW
  by_cases h : rank x = rank y
  · rw [Int.compare_eq_eq.2 h]
    have h2 := h1.1 h
    have h3 : ((decide (rung x = 0) && decide (rung y = 0)) || decide (key x = key y)) = true := by
      simp only [Bool.or_eq_true, Bool.and_eq_true, decide_eq_true_eq]
      exact h2
    rw [h3]
    rfl
  · have h2 : ¬ ((rung x = 0 ∧ rung y = 0) ∨ key x = key y) := fun h3 => h (h1.2 h3)
    have h3 : ((decide (rung x = 0) && decide (rung y = 0)) || decide (key x = key y)) = false := by
      rw [Bool.eq_false_iff]
      simp only [ne_eq, Bool.or_eq_true, Bool.and_eq_true, decide_eq_true_eq]
      exact h2
    rw [h3]
    rcases Int.lt_trichotomy (rank x) (rank y) with h4 | h4 | h4
    · rw [Int.compare_eq_lt.2 h4]; rfl
    · exact absurd h4 h
    · rw [Int.compare_eq_gt.2 h4]; rfl
/-- A word is told by its key. -/
theorem key_inj {x y : Nat} (hx : x < 2 ^ 64) (hy : y < 2 ^ 64) (h : key x = key y) : x = y := by
  unfold key at h
  have n1 : ∀ z : Nat, z < 2 ^ 64 → (negW z = true ↔ 2 ^ 63 ≤ z) := fun z hz => by unfold negW; rw [beq_iff_eq]; omega
  have b1 := n1 x hx
  have b2 := n1 y hy
  unfold rung at h
  by_cases c1 : negW x = true <;> by_cases c2 : negW y = true
  · rw [if_pos c1, if_pos c2] at h; have := b1.1 c1; have := b2.1 c2; omega
  · rw [if_pos c1, if_neg c2] at h; omega
  · rw [if_neg c1, if_pos c2] at h; omega
  · rw [if_neg c1, if_neg c2] at h
    have d1 : ¬ 2 ^ 63 ≤ x := fun q => c1 (b1.2 q)
    have d2 : ¬ 2 ^ 63 ≤ y := fun q => c2 (b2.2 q)
    omega
/-- The order, and that neither is ahead of the other. -/
theorem less_trans (x y z : Nat) (h1 : lessW x y = true) (h2 : lessW y z = true) : lessW x z = true := by
  unfold lessW at *
  cases hx : nanW x <;> cases hy : nanW y <;> cases hz : nanW z <;> simp_all
  omega
theorem less_self (x : Nat) : lessW x x = false := by
  unfold lessW
  cases hx : nanW x <;> simp
theorem same_iff (x y : Nat) (hx : x < 2 ^ 64) (hy : y < 2 ^ 64) : (!lessW x y && !lessW y x) = (decide (x = y) || (nanW x && nanW y)) := by
  by_cases e : x = y
  · subst e; rw [less_self]; simp
  · have hk : key x ≠ key y := fun h => e (key_inj hx hy h)
    unfold lessW
    cases nanW x <;> cases nanW y <;> simp [e]
    omega
end Go.Proofs.YtfebfkbdbncihaaGreatDoor
