
/- Contracts of what is small: Num, Is, Bytes of crossdocknum; the calls of nil; refusal; turnedRound; slices.Clone. -/
import Derived.Test.YtnadnokjhinmcaaSml
namespace Go.Proofs.Ytnadnokjhinmcaa
open Go.RowKit

set_option maxHeartbeats 400000 in
theorem refusal_out (p : Addr) (x n : Int) (w : World) (h : n < 0 ∨ 32 < n) : Calls Try.prog 71 #[.pointer (some p), .int .u32 x, .int .i64 n] w fun e w' => e = .returned (errV 1) ∧ w' = w := by
  rcases h with h | h
  · have h1 : decide (n < 0) = true := decide_eq_true h
    go_enter Try.func71, Try.ntmps71
    go_wp2_with fail
    go_ret
    exact ⟨rfl, rfl⟩
  · have h1 : decide (n < 0) = false := decide_eq_false (by omega)
    have h2 : decide (32 < n) = true := decide_eq_true h
    go_enter Try.func71, Try.ntmps71
    go_wp2_with fail
    go_ret
    exact ⟨rfl, rfl⟩
set_option maxHeartbeats 400000 in
theorem refusal_ok (p : Addr) (x n : Nat) (w : World) (h : n ≤ 32) (hxn : x < 2 ^ n) : Calls Try.prog 71 #[.pointer (some p), .int .u32 (x : Int), .int .i64 (n : Int)] w fun e w' => e = .returned (errV 0) ∧ w' = w := by
  have h1 : decide ((n : Int) < 0) = false := decide_eq_false (by omega)
  have h2 : decide (32 < (n : Int)) = false := decide_eq_false (by omega)
  have h3 : ((x : Int) / 2 ^ n != 0) = false := by
    rw [bne_eq_false_iff_eq]
    have := Nat.div_eq_of_lt hxn
    exact_mod_cast this
  clear hxn
  go_enter Try.func71, Try.ntmps71
  go_wp2_with fail
  go_ret
  exact ⟨rfl, rfl⟩
set_option maxHeartbeats 400000 in
theorem refusal_no (p : Addr) (x n : Nat) (w : World) (h : n ≤ 32) (hxn : 2 ^ n ≤ x) : Calls Try.prog 71 #[.pointer (some p), .int .u32 (x : Int), .int .i64 (n : Int)] w fun e w' => e = .returned (errV 1) ∧ w' = w := by
  have h1 : decide ((n : Int) < 0) = false := decide_eq_false (by omega)
  have h2 : decide (32 < (n : Int)) = false := decide_eq_false (by omega)
  have h3 : ((x : Int) / 2 ^ n != 0) = true := by
    rw [bne_iff_ne]
    have := Nat.div_pos hxn (Nat.two_pow_pos n)
    have h4 : x / 2 ^ n ≠ 0 := by omega
    exact_mod_cast h4
  clear hxn
  go_enter Try.func71, Try.ntmps71
  go_wp2_with fail
  go_ret
  exact ⟨rfl, rfl⟩

set_option maxHeartbeats 400000 in
theorem turned_any (x n : Nat) (w : World) (h : n ≤ 32) (hx : x < 4294967296) : Calls Try.prog 76 #[.int .u32 (x : Int), .int .i64 (n : Int)] w fun e w' => e = .returned (.int .u32 (turn 0 x n : Int)) ∧ w' = w := by
  have HX := Lib.hid hx
  clear hx
  go_enter Try.func76, Try.ntmps76
  go_wp2_with fail
  go_loopw [0, 5, 7] (fun xv t i wr => ∃ k : Nat, k ≤ n ∧ xv = .int .u32 ((x / 2 ^ k : Nat) : Int) ∧ t = .int .u32 ((turn 0 x k : Nat) : Int) ∧ i = .int .i64 k ∧ wr = w) (fun _ _ i _ => n - (intOf i).toNat)
  case atStart => exact ⟨0, by omega, by simp, rfl, rfl, rfl⟩
  case round =>
    obtain ⟨k, hk, rfl, rfl, rfl, rfl⟩ := hrel
    by_cases hlt : k < n
    · have hdk : decide ((k : Int) < (n : Int)) = true := decide_eq_true (by omega)
      have hT : turn 0 x k < 2147483648 := Nat.lt_of_lt_of_le (turn_lt x k) (by
        have := Nat.pow_le_pow_right (show 0 < 2 by decide) (show k ≤ 31 by omega)
        omega)
      have HS : RowKit.Hid (turn 0 x (k + 1) = 2 * turn 0 x k + x / 2 ^ k % 2) := Lib.hid (turn_snoc 0 x k)
      have HD : RowKit.Hid (x / 2 ^ (k + 1) = x / 2 ^ k / 2) := Lib.hid (by rw [Nat.pow_succ, Nat.div_div_eq_div_mul])
      have hX : x / 2 ^ k < 4294967296 := Nat.lt_of_le_of_lt (Nat.div_le_self _ _) HX.out
      generalize turn 0 x k = T at hT HS ⊢
      generalize x / 2 ^ k = X at hX HS HD ⊢
      have e1 := odd32 X hX
      have e2 := or32 T X hT
      go_wp2_with fail
      go_roundw
      case rel =>
        exact ⟨k + 1, by omega, by rw [HD.out]; simp, by rw [HS.out]; simp, by simp, trivial⟩
      case measure => simp [intOf]; omega
    · have hkn : k = n := by omega
      subst hkn
      have hdk : decide ((k : Int) < (k : Int)) = false := decide_eq_false (by omega)
      go_wp2_with fail
      go_ret
      exact ⟨rfl, rfl⟩

end Go.Proofs.Ytnadnokjhinmcaa
