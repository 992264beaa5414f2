/- Contracts of the library's scaling of floats: small steps, each a number that hangs on what comes in alone. -/
import Derived.Test.YtfebfkbdbncihaaGreatDoorNuf
import Derived.Test.YtfebfkbdbncihaaGreatDoorShelf
import Derived.Test.YtfebfkbdbncihaaGreatDoorRowLaw
import Derived.IntWalk
namespace Go.Proofs.YtfebfkbdbncihaaGreatDoor
set_option maxRecDepth 100000
open Go.RowKit

/-- A number of 64 bits without a sign. -/
def W64 (u : Int) : Prop := 0 ≤ u ∧ u < 18446744073709551616
theorem and63 (x : Int) : ∃ k : Nat, bits .and .i64 x 63 = (k : Int) ∧ k ≤ 63 := by
  have h : (BitVec.ofInt 64 x &&& BitVec.ofInt 64 63).toNat ≤ 63 := by
    have : (BitVec.ofInt 64 63 : BitVec 64) = 63#64 := by decide
    rw [this, BitVec.toNat_and]
    exact Nat.le_trans (Nat.and_le_right) (by decide)
  refine ⟨_, ?_, h⟩
  show IntKind.i64.wrap ((BitVec.ofInt 64 x &&& BitVec.ofInt 64 63).toNat : Int) = _
  generalize (BitVec.ofInt 64 x &&& BitVec.ofInt 64 63).toNat = n at h ⊢
  unfold IntKind.wrap
  simp [IntKind.signed, IntKind.bits]
  omega
theorem wrap_w64 (x : Int) : W64 (IntKind.u64.wrap x) := by
  unfold W64 IntKind.wrap
  simp [IntKind.signed, IntKind.bits]
  omega
theorem bits64 (op : BinOp) (x y : Int) : W64 (bits op .u64 x y) := wrap_w64 _
def b2z (b : Bool) : Int := if b then 1 else 0
theorem b2z_w (b : Bool) : b2z b = 0 ∨ b2z b = 1 := by cases b; exact .inl rfl; exact .inr rfl
set_option maxHeartbeats 1000000 in
theorem b2u_any (b : Bool) (w : World) : Calls Tryz.prog 122 #[.bool b] w fun e w' => e = .returned (.int .u64 (b2z b)) ∧ w' = w := by
  cases b
  all_goals
    go_enter Tryz.func122, Tryz.ntmps122
    go_wp2_with fail
    go_ret
    exact ⟨rfl, rfl⟩
theorem mul_any (x y : Nat) (hx : x < 18446744073709551616) (hy : y < 18446744073709551616) (w : World) : Calls Tryz.prog 90 #[.int .u64 (x : Int), .int .u64 (y : Int)] w fun e w' =>
    e = .returned (.tuple #[.int .u64 ((x * y / 18446744073709551616 : Nat) : Int), .int .u64 ((x * y % 18446744073709551616 : Nat) : Int)]) ∧ w = w' :=
  (Tryz.bits_Mul64 x y hx hy w).mono fun _ _ ⟨h1, h2⟩ => ⟨h1, h2.symm⟩
def nudgeZ (u δ : Int) : Int := IntKind.u64.wrap (u + IntKind.u64.wrap δ)
def ceilZ (u : Int) : Int := IntKind.u64.wrap (u + 3) / 4
def floorZ (u : Int) : Int := IntKind.u64.wrap u / 4
def roundZ (u : Int) : Int := IntKind.u64.wrap (IntKind.u64.wrap (u + 1) + bits .and .u64 (u / 4) 1) / 4
def l10 (x : Int) : Int := x * 78913 / 262144
def l2 (x : Int) : Int := x * 108853 / 32768
def skewZ (x : Int) : Int := (x * 631305 - 261663) / 2097152
set_option maxHeartbeats 1000000 in
theorem nudge_any (u δ : Int) (w : World) : Calls Tryz.prog 141 #[.int .u64 u, .int .i64 δ] w fun e w' => e = .returned (.int .u64 (nudgeZ u δ)) ∧ w = w' := by
  go_enter Tryz.func141, Tryz.ntmps141
  go_wp2_with fail
  go_ret
  exact ⟨rfl, rfl⟩
set_option maxHeartbeats 1000000 in
theorem ceil_any (u : Int) (w : World) : Calls Tryz.prog 142 #[.int .u64 u] w fun e w' => e = .returned (.int .u64 (ceilZ u)) ∧ w = w' := by
  go_enter Tryz.func142, Tryz.ntmps142
  go_wp2_with fail
  go_ret
  exact ⟨rfl, rfl⟩
set_option maxHeartbeats 1000000 in
theorem floor_any (u : Int) (w : World) : Calls Tryz.prog 143 #[.int .u64 u] w fun e w' => e = .returned (.int .u64 (floorZ u)) ∧ w = w' := by
  go_enter Tryz.func143, Tryz.ntmps143
  go_wp2_with fail
  go_ret
  exact ⟨rfl, rfl⟩
set_option maxHeartbeats 1000000 in
theorem round_any (u : Int) (w : World) : Calls Tryz.prog 144 #[.int .u64 u] w fun e w' => e = .returned (.int .u64 (roundZ u)) ∧ w = w' := by
  go_enter Tryz.func144, Tryz.ntmps144
  go_wp2_with fail
  go_ret
  exact ⟨rfl, rfl⟩
set_option maxHeartbeats 1000000 in
theorem l10_any (x : Int) (w : World) (h1 : -100000 ≤ x) (h2 : x ≤ 100000) : Calls Tryz.prog 95 #[.int .i64 x] w fun e w' => e = .returned (.int .i64 (l10 x)) ∧ w = w' := by
  go_enter Tryz.func95, Tryz.ntmps95
  go_wp2_with fail
  go_ret
  exact ⟨rfl, rfl⟩
set_option maxHeartbeats 1000000 in
theorem l2_any (x : Int) (w : World) (h1 : -100000 ≤ x) (h2 : x ≤ 100000) : Calls Tryz.prog 139 #[.int .i64 x] w fun e w' => e = .returned (.int .i64 (l2 x)) ∧ w = w' := by
  go_enter Tryz.func139, Tryz.ntmps139
  go_wp2_with fail
  go_ret
  exact ⟨rfl, rfl⟩
set_option maxHeartbeats 1000000 in
theorem skew_any (x : Int) (w : World) (h1 : -100000 ≤ x) (h2 : x ≤ 100000) : Calls Tryz.prog 137 #[.int .i64 x] w fun e w' => e = .returned (.int .i64 (skewZ x)) ∧ w = w' := by
  go_enter Tryz.func137, Tryz.ntmps137
  go_wp2_with fail
  go_ret
  exact ⟨rfl, rfl⟩
end Go.Proofs.YtfebfkbdbncihaaGreatDoor
