/- Contracts of Text and of the reference's Text. -/
import Derived.Test.YtfebfkbdbncihaaGreatDoorNtk
namespace Go.Proofs.YtfebfkbdbncihaaGreatDoor
set_option maxRecDepth 100000
set_option exponentiation.threshold 2000
open Go.RowKit

theorem trunc_run (x : Nat) (w : World) (hn : nanW x = false) : (callFunc 46 #[.float .f64 x]).run Tryz.prog w = .ok (.value (.float .f64 (FloatKind.f64.encode ((FloatKind.f64.decode x).integral .zero)))) w := by
  have hd : ∀ s t, FloatKind.f64.decode x ≠ .nan s t := by
    intro s t h
    have h : Ieee.double.read x = .nan s t := h
    by_cases hr : rung x < infR
    · obtain ⟨m, k, h2, _⟩ := read_num x hr
      rw [h2] at h; cases h
    · have hr2 : rung x = infR := by unfold nanW at hn; have := of_decide_eq_false hn; omega
      rw [read_inf x hr2] at h; cases h
  rw [run_callFunc_extern Tryz.func46 (by kernel_rfl) (by kernel_rfl) (by kernel_rfl) (e := Extern.MathFloor.toIntegral "math.archTrunc" .zero) (by kernel_rfl)]
  have h1 : Sem.run Tryz.prog (Extern.MathFloor.toIntegral "math.archTrunc" .zero #[.float .f64 x]) w = .ok (.float .f64 (FloatKind.f64.encode ((FloatKind.f64.decode x).integral .zero))) w := by
    unfold Extern.MathFloor.toIntegral
    change Sem.run Tryz.prog (Go.Extern.MathFloor.toIntegral.match_1 (fun _ => Sem Value) (FloatKind.f64.decode x) _ _) w = _
    cases hD : FloatKind.f64.decode x with
    | nan s t => exact absurd hD (hd s t)
    | infinity s => rfl
    | number s m i => rfl
  rw [h1]
  rfl
theorem trunc_any (x : Nat) (w : World) (hn : nanW x = false) : Calls Tryz.prog 34 #[.float .f64 x] w fun e w' => e = .returned (.float .f64 (FloatKind.f64.encode ((FloatKind.f64.decode x).integral .zero))) ∧ w = w' := by
  have h := trunc_run x w hn
  generalize FloatKind.f64.encode ((FloatKind.f64.decode x).integral .zero) = y at h ⊢
  clear hn
  go_enter Tryz.func34, Tryz.ntmps34
  go_wp2_with fail
  go_ret
  exact ⟨rfl, rfl⟩
/-- A float that is no infinity and not 0, made whole: the size, the number, the word. -/
def tZ (x : Nat) : Nat := match FloatKind.f64.decode x with
  | .number s m i => Ieee.Toward.zero.cut s (m <<< i.toNat) (-i).toNat
  | _ => 0
def nZ (x : Nat) : Int := if negW x then -(tZ x : Int) else (tZ x : Int)
theorem int_nz (x : Nat) (hi : rung x < infR) : (FloatKind.f64.decode x).integral .zero = .number (negW x) (tZ x) 0 := by
  obtain ⟨m, k, h2, _⟩ := read_num x hi
  unfold tZ
  have h3 : FloatKind.f64.decode x = .number (negW x) m (-1074 + (k : Nat)) := h2
  rw [h3]
  rfl
theorem toint_nz (x : Nat) (hi : rung x < infR) : (FloatKind.f64.decode x).toInt .zero = some (nZ x) := by
  unfold Ieee.Datum.toInt
  rw [int_nz x hi]
  dsimp only
  unfold Ieee.signed nZ
  rw [Nat.shiftLeft_zero]
theorem cut_zero (s : Bool) (n d : Nat) : Ieee.Toward.zero.cut s n d * 2 ^ d ≤ n := by
  unfold Ieee.Toward.cut
  have hz : (match Ieee.Toward.zero with
      | .even => decide ((1 <<< min d (n.log2 + 2)) < 2 * (n % (1 <<< min d (n.log2 + 2)))) || ((1 <<< min d (n.log2 + 2)) == 2 * (n % (1 <<< min d (n.log2 + 2))) && n / (1 <<< min d (n.log2 + 2)) % 2 == 1)
      | .down => s && n % (1 <<< min d (n.log2 + 2)) != 0
      | .up => !s && n % (1 <<< min d (n.log2 + 2)) != 0
      | .zero => false) = false := rfl
  show (n / (1 <<< min d (n.log2 + 2)) + 0) * 2 ^ d ≤ n
  rw [Nat.add_zero, Nat.shiftLeft_eq, Nat.one_mul]
  rcases Nat.le_total d (n.log2 + 2) with h | h
  · rw [Nat.min_eq_left h]; exact Nat.div_mul_le_self n _
  · rw [Nat.min_eq_right h]
    have : n < 2 ^ (n.log2 + 2) := by
      have h1 := Nat.lt_log2_self (n := n)
      have h2 : 2 ^ (n.log2 + 1) ≤ 2 ^ (n.log2 + 2) := Nat.pow_le_pow_right (by decide) (by omega)
      omega
    rw [Nat.div_eq_of_lt this, Nat.zero_mul]
    exact Nat.zero_le _
theorem tZ_le (x : Nat) (hi : rung x < infR) : tZ x * 2 ^ 1074 ≤ mr (rung x) := by
  obtain ⟨m, k, h2, hm⟩ := read_num x hi
  have h3 : FloatKind.f64.decode x = .number (negW x) m (-1074 + (k : Nat)) := h2
  unfold tZ
  rw [h3]
  dsimp only
  rw [← hm]
  have hc := cut_zero (negW x) (m <<< (-1074 + (k : Int)).toNat) (-(-1074 + (k : Int))).toNat
  generalize Ieee.Toward.zero.cut (negW x) (m <<< (-1074 + (k : Int)).toNat) (-(-1074 + (k : Int))).toNat = t at hc ⊢
  rw [Nat.shiftLeft_eq] at hc
  rcases Nat.le_total k 1074 with h | h
  · rw [show (-1074 + (k : Int)).toNat = 0 from by omega, show (-(-1074 + (k : Int))).toNat = 1074 - k from by omega, Nat.pow_zero, Nat.mul_one] at hc
    calc t * 2 ^ 1074 = t * 2 ^ (1074 - k) * 2 ^ k := by rw [Nat.mul_assoc, ← Nat.pow_add, Nat.sub_add_cancel h]
      _ ≤ m * 2 ^ k := Nat.mul_le_mul_right _ hc
  · rw [show (-1074 + (k : Int)).toNat = k - 1074 from by omega, show (-(-1074 + (k : Int))).toNat = 0 from by omega, Nat.pow_zero, Nat.mul_one] at hc
    calc t * 2 ^ 1074 ≤ m * 2 ^ (k - 1074) * 2 ^ 1074 := Nat.mul_le_mul_right _ hc
      _ = m * 2 ^ k := by rw [Nat.mul_assoc, ← Nat.pow_add, Nat.sub_add_cancel h]
theorem mr_top : mr (1086 * 2 ^ 52) = 2 ^ 63 * 2 ^ 1074 := by
  unfold mr
  rw [if_neg (by decide), show 1086 * 2 ^ 52 % 2 ^ 52 = 0 by decide, show 1086 * 2 ^ 52 / 2 ^ 52 - 1 = 1085 by decide, Nat.add_zero, ← Nat.pow_add]
/-- The words of the two edges. -/
abbrev negE : Nat := 14114281232179134464
abbrev posE : Nat := 4890909195324358656
def inR (x : Nat) : Bool := decide (key negE ≤ key x) && decide (key x < key posE)
theorem nZ_in (x : Nat) (hi : rung x < infR) (hr : inR x = true) : -9223372036854775808 ≤ nZ x ∧ nZ x ≤ 9223372036854775807 := by
  unfold inR at hr
  rw [Bool.and_eq_true] at hr
  have h1 := of_decide_eq_true hr.1
  have h2 := of_decide_eq_true hr.2
  have k1 : key negE = -(1086 * 2 ^ 52 : Int) - 1 := by decide
  have k2 : key posE = (1086 * 2 ^ 52 : Int) := by decide
  rw [k1] at h1
  rw [k2] at h2
  have ht := tZ_le x hi
  unfold nZ
  unfold key at h1 h2
  by_cases hn : negW x = true
  · rw [if_pos hn] at h1 h2 ⊢
    have h3 : rung x ≤ 1086 * 2 ^ 52 := by omega
    have h4 := Nat.le_trans ht (mr_le.2 h3)
    rw [mr_top] at h4
    have h5 := Nat.le_of_mul_le_mul_right h4 (Nat.two_pow_pos 1074)
    constructor <;> omega
  · rw [if_neg hn] at h1 h2 ⊢
    have h3 : rung x < 1086 * 2 ^ 52 := by omega
    have h4 := Nat.lt_of_le_of_lt ht (mr_lt h3)
    rw [mr_top] at h4
    have h5 := Nat.lt_of_mul_lt_mul_right h4
    constructor <;> omega
theorem conv_run (x : Nat) (hi : rung x < infR) (hr : inR x = true) (w : World) : (convert 28 2 (.float .f64 x)).run Tryz.prog w = .ok (.int .i64 (nZ x)) w := by
  have h := nZ_in x hi hr
  refine run_convert_float_int w 28 2 .f64 .i64 x (nZ x) (by kernel_rfl) (by kernel_rfl) ?_
  unfold floatToIntVal
  rw [toint_nz x hi]
  dsimp only
  rw [if_pos ⟨by have : IntKind.i64.min = -9223372036854775808 := by decide
                 omega, by have : IntKind.i64.max = 9223372036854775807 := by decide
                           omega⟩]
/-- The word of the float made whole; the word that its number comes to. -/
def yW (x : Nat) : Nat := FloatKind.f64.encode ((FloatKind.f64.decode x).integral .zero)
theorem fin_nan (x : Nat) (hi : rung x < infR) : nanW x = false := by unfold nanW; exact decide_eq_false (by omega)
theorem ord_sym (x y : Nat) : (ord x y == some .eq) = (ord y x == some .eq) := by
  rw [ord_def, ord_def]
  cases hx : nanW x
  · cases hy : nanW y
    · rw [order_eq x y hx hy, order_eq y x hy hx, Bool.and_comm]
      congr 1
      exact decide_eq_decide.2 ⟨Eq.symm, Eq.symm⟩
    · rw [order_nan2 x y hy, order_nan1 y x hy]
  · rw [order_nan1 x y hx, order_nan2 y x hx]
theorem back_eq (x : Nat) (hn : 0 < rung x) (hi : rung x < infR) : (ord (floatOfInt .f64 (nZ x)) x == some .eq) = (ord x (yW x) == some .eq) := by
  unfold yW
  rw [int_nz x hi]
  have hf : floatOfInt .f64 (nZ x) = FloatKind.f64.encode (.number (decide (nZ x < 0)) (nZ x).natAbs 0) := rfl
  rw [hf]
  by_cases h0 : tZ x = 0
  · have hz : zeroW x = false := by unfold zeroW; exact decide_eq_false (by omega)
    have n1 : nZ x = 0 := by unfold nZ; rw [h0]; split <;> rfl
    rw [n1, h0]
    have e1 : FloatKind.f64.encode (.number (decide ((0 : Int) < 0)) (0 : Int).natAbs 0) = 0 := by decide
    rw [e1, ord_sym, ord_def, ord_def, order_zero x (fin_nan x hi), hz]
    cases hs : negW x
    · have e2 : FloatKind.f64.encode (.number false 0 0) = 0 := by decide
      rw [e2, order_zero x (fin_nan x hi), hz]
    · have e2 : FloatKind.f64.encode (.number true 0 0) = 9223372036854775808 := by decide
      rw [e2, order_eq x 9223372036854775808 (fin_nan x hi) (by decide), hz, Bool.false_and, Bool.false_or]
      refine (decide_eq_false ?_).symm
      have k2 : key 9223372036854775808 = -1 := by decide
      rw [k2]
      unfold key
      rw [if_pos hs]
      omega
  · have e1 : (decide (nZ x < 0)) = negW x := by
      unfold nZ
      cases hs : negW x
      · rw [if_neg (by simp)]; exact decide_eq_false (by omega)
      · rw [if_pos rfl]; exact decide_eq_true (by omega)
    have e2 : (nZ x).natAbs = tZ x := by
      unfold nZ
      split <;> omega
    rw [e1, e2]
    exact ord_sym _ _
end Go.Proofs.YtfebfkbdbncihaaGreatDoor
