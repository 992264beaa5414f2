
/- Contracts of what is small: Num, Is, Bytes of crossdocknum; the calls of nil; refusal; turnedRound; slices.Clone. -/
import Derived.Test.YtfkbaagigdjbpaaPure
namespace Go.Proofs.Ytfkbaagigdjbpaa
open Go.RowKit

/-- An error by its number; 0: none. -/
def errV : Nat → Value
  | 0 => .nilIface
  | k + 1 => .iface 52 (.int .i64 ((k + 1 : Nat) : Int))

theorem as62 (k : Int) (w : World) : (Instr.typeAssert (.iface 52 (.int .i64 k)) 26 52 true).run Try.prog w = .ok (.tuple #[.int .i64 k, .bool true]) w := by kernel_rfl

set_option maxHeartbeats 400000 in
theorem num_any (k : Nat) (w : World) : Calls Try.prog 11 #[errV k] w fun e w' => e = .returned (.int .i64 (k : Int)) ∧ w' = w := by
  cases k with
  | zero =>
    rw [show errV 0 = .nilIface from rfl]
    go_enter Try.func11, Try.ntmps11
    go_wp2_with fail
    go_ret
    exact ⟨rfl, rfl⟩
  | succ k =>
    rw [show errV (k + 1) = .iface 52 (.int .i64 ((k + 1 : Nat) : Int)) from rfl]
    obtain ⟨z, hz⟩ : ∃ z : Int, ((k + 1 : Nat) : Int) = z := ⟨_, rfl⟩
    rw [hz]
    have hz0 : (z == 0) = false := by rw [beq_eq_false_iff_ne]; omega
    have hz1 : (z != 0) = true := by rw [bne_iff_ne]; omega
    have h1 := as62 z w
    clear hz
    go_enter Try.func11, Try.ntmps11
    go_wp2_with fail
    go_ret
    exact ⟨rfl, rfl⟩

set_option maxHeartbeats 400000 in
theorem is_none (w : World) : Calls Try.prog 21 #[.iface 52 (.int .i64 4), .int .i64 4] w fun e w' => e = .returned (.bool true) ∧ w' = w := by
  go_enter Try.func21, Try.ntmps21
  go_wp2_with fail
  refine (num_any 4 w).mono ?_
  rintro e w1 ⟨rfl, rfl⟩
  go_wp2_with fail
  go_ret
  exact ⟨rfl, rfl⟩

set_option maxHeartbeats 400000 in
theorem rbits_nil (n : Int) (w : World) : Calls Try.prog 17 #[.pointer none, .int .i64 n] w fun e w' => e = .returned (.tuple #[.int .u32 0, .iface 52 (.int .i64 4)]) ∧ w' = w := by
  go_enter Try.func17, Try.ntmps17
  go_wp2_with fail
  go_ret2
  exact ⟨rfl, rfl⟩
set_option maxHeartbeats 400000 in
theorem rpeek_nil (n : Int) (w : World) : Calls Try.prog 38 #[.pointer none, .int .i64 n] w fun e w' => e = .returned (.tuple #[.int .u32 0, .int .i64 0]) ∧ w' = w := by
  go_enter Try.func38, Try.ntmps38
  go_wp2_with fail
  go_ret2
  exact ⟨rfl, rfl⟩
set_option maxHeartbeats 400000 in
theorem at_nil (w : World) : Calls Try.prog 20 #[.pointer none] w fun e w' => e = .returned (.int .i64 0) ∧ w' = w := by
  go_enter Try.func20, Try.ntmps20
  go_wp2_with fail
  go_ret
  exact ⟨rfl, rfl⟩
set_option maxHeartbeats 400000 in
theorem left_nil (w : World) : Calls Try.prog 36 #[.pointer none] w fun e w' => e = .returned (.int .i64 0) ∧ w' = w := by
  go_enter Try.func36, Try.ntmps36
  go_wp2_with fail
  go_ret
  exact ⟨rfl, rfl⟩
set_option maxHeartbeats 400000 in
theorem wlen_nil (w : World) : Calls Try.prog 25 #[.pointer none] w fun e w' => e = .returned (.int .i64 0) ∧ w' = w := by
  go_enter Try.func25, Try.ntmps25
  go_wp2_with fail
  go_ret
  exact ⟨rfl, rfl⟩
set_option maxHeartbeats 400000 in
theorem wtext_nil (w : World) : Calls Try.prog 24 #[.pointer none] w fun e w' => e = .returned (.slice none 0 0) ∧ w' = w := by
  go_enter Try.func24, Try.ntmps24
  go_wp2_with fail
  go_ret
  exact ⟨rfl, rfl⟩
set_option maxHeartbeats 400000 in
theorem refusal_nil (x n : Int) (w : World) : Calls Try.prog 41 #[.pointer none, .int .u32 x, .int .i64 n] w fun e w' => e = .returned (.iface 52 (.int .i64 4)) ∧ w' = w := by
  go_enter Try.func41, Try.ntmps41
  go_wp2_with fail
  go_ret
  exact ⟨rfl, rfl⟩
set_option maxHeartbeats 400000 in
theorem code_nil (x n : Int) (w : World) : Calls Try.prog 39 #[.pointer none, .int .u32 x, .int .i64 n] w fun e w' => e = .returned (.iface 52 (.int .i64 4)) ∧ w' = w := by
  go_enter Try.func39, Try.ntmps39
  go_wp2_with fail
  refine (refusal_nil x n w).mono ?_
  rintro e w1 ⟨rfl, rfl⟩
  go_wp2_with fail
  go_ret
  exact ⟨rfl, rfl⟩

set_option maxHeartbeats 400000 in
theorem refusal_out (p : Addr) (x n : Int) (w : World) (h : n < 0 ∨ 32 < n) : Calls Try.prog 41 #[.pointer (some p), .int .u32 x, .int .i64 n] w fun e w' => e = .returned (errV 1) ∧ w' = w := by
  rcases h with h | h
  · have h1 : decide (n < 0) = true := decide_eq_true h
    go_enter Try.func41, Try.ntmps41
    go_wp2_with fail
    go_ret
    exact ⟨rfl, rfl⟩
  · have h1 : decide (n < 0) = false := decide_eq_false (by omega)
    have h2 : decide (32 < n) = true := decide_eq_true h
    go_enter Try.func41, Try.ntmps41
    go_wp2_with fail
    go_ret
    exact ⟨rfl, rfl⟩
set_option maxHeartbeats 400000 in
theorem refusal_ok (p : Addr) (x n : Nat) (w : World) (h : n ≤ 32) (hxn : x < 2 ^ n) : Calls Try.prog 41 #[.pointer (some p), .int .u32 (x : Int), .int .i64 (n : Int)] w fun e w' => e = .returned (errV 0) ∧ w' = w := by
  have h1 : decide ((n : Int) < 0) = false := decide_eq_false (by omega)
  have h2 : decide (32 < (n : Int)) = false := decide_eq_false (by omega)
  have h3 : ((x : Int) / 2 ^ n != 0) = false := by
    rw [bne_eq_false_iff_eq]
    have := Nat.div_eq_of_lt hxn
    exact_mod_cast this
  clear hxn
  go_enter Try.func41, Try.ntmps41
  go_wp2_with fail
  go_ret
  exact ⟨rfl, rfl⟩
set_option maxHeartbeats 400000 in
theorem refusal_no (p : Addr) (x n : Nat) (w : World) (h : n ≤ 32) (hxn : 2 ^ n ≤ x) : Calls Try.prog 41 #[.pointer (some p), .int .u32 (x : Int), .int .i64 (n : Int)] w fun e w' => e = .returned (errV 1) ∧ w' = w := by
  have h1 : decide ((n : Int) < 0) = false := decide_eq_false (by omega)
  have h2 : decide (32 < (n : Int)) = false := decide_eq_false (by omega)
  have h3 : ((x : Int) / 2 ^ n != 0) = true := by
    rw [bne_iff_ne]
    have := Nat.div_pos hxn (Nat.two_pow_pos n)
    have h4 : x / 2 ^ n ≠ 0 := by omega
    exact_mod_cast h4
  clear hxn
  go_enter Try.func41, Try.ntmps41
  go_wp2_with fail
  go_ret
  exact ⟨rfl, rfl⟩

theorem odd32 (x : Nat) (hx : x < 4294967296) : bits .and .u32 (x : Int) 1 = ((x % 2 : Nat) : Int) := by
  have := u32_and_nat x 1 hx (by decide)
  rw [Nat.and_one_is_mod] at this
  exact this
theorem or32 (t x : Nat) (ht : t < 2147483648) : bits .or .u32 ((t : Int) * 2) ((x : Int) % 2) = ((2 * t + x % 2 : Nat) : Int) := by
  have h1 : (t : Int) * 2 = ((2 * t : Nat) : Int) := by omega
  have h2 : (x : Int) % 2 = ((x % 2 : Nat) : Int) := by omega
  rw [h1, h2, u32_or_nat _ _ (by omega) (by omega)]
  have := Nat.two_pow_add_eq_or_of_lt (i := 1) (b := x % 2) (by omega) t
  simp at this
  rw [← this]

set_option maxHeartbeats 400000 in
theorem turned_any (x n : Nat) (w : World) (h : n ≤ 32) (hx : x < 4294967296) : Calls Try.prog 43 #[.int .u32 (x : Int), .int .i64 (n : Int)] w fun e w' => e = .returned (.int .u32 (turn 0 x n : Int)) ∧ w' = w := by
  have HX := Lib.hid hx
  clear hx
  go_enter Try.func43, Try.ntmps43
  go_wp2_with fail
  go_loopw [0, 5, 7] (fun xv t i wr => ∃ k : Nat, k ≤ n ∧ xv = .int .u32 ((x / 2 ^ k : Nat) : Int) ∧ t = .int .u32 ((turn 0 x k : Nat) : Int) ∧ i = .int .i64 k ∧ wr = w) (fun _ _ i _ => n - (intOf i).toNat)
  case atStart => exact ⟨0, by omega, by simp, rfl, rfl, rfl⟩
  case round =>
    obtain ⟨k, hk, rfl, rfl, rfl, rfl⟩ := hrel
    by_cases hlt : k < n
    · have hdk : decide ((k : Int) < (n : Int)) = true := decide_eq_true (by omega)
      have hT : turn 0 x k < 2147483648 := Nat.lt_of_lt_of_le (turn_lt x k) (by
        have := Nat.pow_le_pow_right (show 0 < 2 by decide) (show k ≤ 31 by omega)
        omega)
      have HS : RowKit.Hid (turn 0 x (k + 1) = 2 * turn 0 x k + x / 2 ^ k % 2) := Lib.hid (turn_snoc 0 x k)
      have HD : RowKit.Hid (x / 2 ^ (k + 1) = x / 2 ^ k / 2) := Lib.hid (by rw [Nat.pow_succ, Nat.div_div_eq_div_mul])
      have hX : x / 2 ^ k < 4294967296 := Nat.lt_of_le_of_lt (Nat.div_le_self _ _) HX.out
      generalize turn 0 x k = T at hT HS ⊢
      generalize x / 2 ^ k = X at hX HS HD ⊢
      have e1 := odd32 X hX
      have e2 := or32 T X hT
      go_wp2_with fail
      go_roundw
      case rel =>
        exact ⟨k + 1, by omega, by rw [HD.out]; simp, by rw [HS.out]; simp, by simp, trivial⟩
      case measure => simp [intOf]; omega
    · have hkn : k = n := by omega
      subst hkn
      have hdk : decide ((k : Int) < (k : Int)) = false := decide_eq_false (by omega)
      go_wp2_with fail
      go_ret
      exact ⟨rfl, rfl⟩

theorem some22 (a : Addr) (n c : Nat) (w : World) : (binOp .eql 39 (.slice (some a) n c) (.slice none 0 0)).run Try.prog w = .ok (.bool false) w := by kernel_rfl
theorem none22 (w : World) : (binOp .eql 39 (.slice none 0 0) (.slice none 0 0)).run Try.prog w = .ok (.bool true) w := by kernel_rfl

set_option maxHeartbeats 400000 in
/-- slices.Clone -/
theorem clone_any (A : Option Addr) (n c : Nat) (l : List UInt8) (w : World) (hr : Rd w w.heap.size A n (us l)) (hA : A = none → c = 0) (hn : n ≤ 1000000) :
    Calls Try.prog 35 #[.slice A n c] w fun e w' => ∃ v, e = .returned v ∧ Own w' w.heap.size v l ∧ w.grownBy w' none := by
  have hl : l.length = n := by have := hr.1; rwa [us_length] at this
  rcases A with _ | a
  · have h0 : n = 0 := by
      rcases Nat.eq_zero_or_pos n with h0 | h0
      · exact h0
      · obtain ⟨g, o, he, _⟩ := hr.2 h0; cases he
    subst h0
    have : l = [] := List.eq_nil_of_length_eq_zero hl
    subst this
    have hc := hA rfl
    subst hc
    have hn := none22 w
    go_enter Try.func35, Try.ntmps35
    go_wp2_with fail
    go_ret
    exact ⟨_, rfl, Own.nil _ _, World.grownBy.refl _ _⟩
  · obtain ⟨b, off, sp⟩ := a
    have HR := Lib.hid hr
    have HA := Lib.hid hA
    have HO := Lib.hid (Own.lit w #[] [] 0 rfl rfl (by decide))
    have HG := Lib.hid (World.grownBy_alloc w (.cells #[] 5) none)
    clear hr hA
    have hn := some22 ⟨b, off, sp⟩ n c w
    go_enter Try.func35, Try.ntmps35
    go_wp2_with (at_builtin; refine cat8 (w.alloc (.cells #[] 5)) rfl (.tmp 5) (.tmp 6) rfl w.heap.size w.heap.size _ [] l _ n c rfl rfl HO.out (HR.out.below (below_make HG.out)) HA.out (by simp) (by simp; omega) ?_)
    intro v' w' ho hg _
    have hgw : w.grownBy w' none := ⟨hg.os.trans HG.out.os, hg.tape.trans HG.out.tape, hg.output.trans HG.out.output, Nat.le_trans HG.out.size hg.size, fun k hk _ => (hg.block k (by simp; omega) (by simp [Value.ownBlock]; omega)).trans (HG.out.block k hk (by simp))⟩
    have HO2 := Lib.hid ho
    have HG2 := Lib.hid hgw
    clear ho hg hgw
    go_wp2_with fail
    go_ret
    exact ⟨_, rfl, HO2.out, HG2.out⟩

end Go.Proofs.Ytfkbaagigdjbpaa
