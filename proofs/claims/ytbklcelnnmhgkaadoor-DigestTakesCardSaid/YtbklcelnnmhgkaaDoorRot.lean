/- Contract of sha.right (math/bits.RotateLeft32 beneath it), and what the operations on numbers of 32 bits come to. -/
import Derived.Test.YtbklcelnnmhgkaaDoorWords
import Derived.Test.YtbklcelnnmhgkaaDoorPure
namespace Go.Proofs.YtbklcelnnmhgkaaDoor
open Go.RowKit

abbrev U32 (x : UInt32) : Value := .int .u32 (x.toNat : Int)
theorem u32_lt (x : UInt32) : x.toNat < 4294967296 := x.toNat_lt

theorem and32 (x y : UInt32) : bits .and .u32 (x.toNat : Int) (y.toNat : Int) = ((x &&& y).toNat : Int) := by
  rw [u32_and_nat _ _ (u32_lt x) (u32_lt y), UInt32.toNat_and]
theorem or32 (x y : UInt32) : bits .or .u32 (x.toNat : Int) (y.toNat : Int) = ((x ||| y).toNat : Int) := by
  rw [u32_or_nat _ _ (u32_lt x) (u32_lt y), UInt32.toNat_or]
theorem xor32 (x y : UInt32) : bits .xor .u32 (x.toNat : Int) (y.toNat : Int) = ((x ^^^ y).toNat : Int) := by
  rw [u32_xor_nat _ _ (u32_lt x) (u32_lt y), UInt32.toNat_xor]
theorem add32 (x y : UInt32) : ((x.toNat : Int) + (y.toNat : Int)) % 4294967296 = ((x + y).toNat : Int) := by
  rw [UInt32.toNat_add]; omega
theorem addw32 (x y : UInt32) : IntKind.u32.wrap ((x.toNat : Int) + (y.toNat : Int)) = ((x + y).toNat : Int) := by
  rw [IntKind.wrap_u32]; exact add32 x y
theorem shl32 (x : UInt32) (n : Nat) : (x.toNat : Int) * 2 ^ n % 4294967296 = ((shl x n).toNat : Int) := by
  rw [shl, UInt32.toNat_ofNat']
  have : ((x.toNat : Int) * 2 ^ n) = ((x.toNat * 2 ^ n : Nat) : Int) := by simp
  rw [this]; omega
theorem shr32 (x : UInt32) (n : Nat) : (x.toNat : Int) / 2 ^ n = ((shr x n).toNat : Int) := by
  have h1 : ((2 : Int) ^ n) = ((2 ^ n : Nat) : Int) := by simp
  rw [shr, UInt32.toNat_ofNat', h1]
  have h2 : x.toNat / 2 ^ n ≤ x.toNat := Nat.div_le_self _ _
  have := u32_lt x
  rw [Nat.mod_eq_of_lt (by omega)]
  simp

/-- The same under names that simp leaves alone. -/
def x32 (x y : UInt32) : UInt32 := x ^^^ y
def a32 (x y : UInt32) : UInt32 := x + y
def n32 (x : UInt32) : UInt32 := ~~~x
def c32 (x y : UInt32) : UInt32 := x &&& y
def o32 (x y : UInt32) : UInt32 := x ||| y
theorem rx32 (x y : UInt32) : bits .xor .u32 (x.toNat : Int) (y.toNat : Int) = ((x32 x y).toNat : Int) := xor32 x y
theorem rc32 (x y : UInt32) : bits .and .u32 (x.toNat : Int) (y.toNat : Int) = ((c32 x y).toNat : Int) := and32 x y
theorem ro32 (x y : UInt32) : bits .or .u32 (x.toNat : Int) (y.toNat : Int) = ((o32 x y).toNat : Int) := or32 x y
theorem ra32 (x y : UInt32) : ((x.toNat : Int) + (y.toNat : Int)) % 4294967296 = ((a32 x y).toNat : Int) := add32 x y

set_option maxHeartbeats 400000 in
theorem left_any (x : UInt32) (y : Int) (s : Nat) (hs : bits .and .u64 (IntKind.u64.wrap y) 31 = (s : Int)) (h1 : s < 32) (w : World) :
    Calls Tryd.prog 44 #[U32 x, .int .i64 y] w fun e w' => e = .returned (U32 (rotr x (32 - s))) ∧ w' = w := by
  obtain ⟨r, hr⟩ : ∃ r, 32 - s = r := ⟨_, rfl⟩
  have e1 : (x.toNat : Int) * 2 ^ min s 32 % 4294967296 = ((shl x s).toNat : Int) := by rw [show min s 32 = s by omega]; exact shl32 x s
  have e2 : (x.toNat : Int) / 2 ^ min r 32 = ((shr x r).toNat : Int) := by rw [show min r 32 = r by omega]; exact shr32 x r
  have e3 : IntKind.u64.wrap (32 - (s : Int)) = (r : Int) := by rw [IntKind.wrap_u64]; omega
  have e4 := or32 (shl x s) (shr x r)
  have e5 : shl x s ||| shr x r = rotr x r := by unfold rotr; rw [show 32 - r = s by omega]
  rw [e5] at e4
  rw [hr]
  have HR := Lib.hid hr
  have H1 := Lib.hid h1
  clear hr h1 e5
  go_enter Tryd.func44, Tryd.ntmps44
  go_wp2_with fail
  go_ret
  exact ⟨rfl, rfl⟩

set_option maxHeartbeats 400000 in
theorem right_of (x : UInt32) (k : Nat) (y : Int) (h0 : y = -(k : Int)) (hs : bits .and .u64 (IntKind.u64.wrap y) 31 = ((32 - k : Nat) : Int)) (h1 : 0 < k) (h2 : k < 32) (w : World) :
    Calls Tryd.prog 42 #[U32 x, .int .i64 (k : Int)] w fun e w' => e = .returned (U32 (rotr x k)) ∧ w' = w := by
  have hy : IntKind.i64.wrap (-(k : Int)) = y := by rw [h0]; exact IntWalk.i64_in _ (by omega)
  have HS := Lib.hid hs
  have H0 := Lib.hid h0
  clear hs h0
  go_enter Tryd.func42, Tryd.ntmps42
  go_wp2_with fail
  refine (left_any x y (32 - k) HS.out (by omega) w).mono ?_
  rintro e w1 ⟨rfl, rfl⟩
  rw [show 32 - (32 - k) = k by omega]
  go_wp2_with fail
  go_ret
  exact ⟨rfl, rfl⟩

theorem maskK : ∀ k : Fin 32, 0 < k.val → bits .and .u64 (IntKind.u64.wrap (-(k.val : Int))) 31 = ((32 - k.val : Nat) : Int) := by decide +kernel
def okI (n : Int) : Bool := decide (0 < n) && decide (n < 32)
theorem right_at (x : UInt32) (n : Int) (h : okI n = true) (w : World) : Calls Tryd.prog 42 #[U32 x, .int .i64 n] w fun e w' => e = .returned (U32 (rotr x n.toNat)) ∧ w' = w := by
  simp only [okI, Bool.and_eq_true, decide_eq_true_eq] at h
  obtain ⟨k, rfl⟩ : ∃ k : Nat, n = (k : Int) := ⟨n.toNat, by omega⟩
  exact right_of x k _ rfl (maskK ⟨k, by omega⟩ (by show 0 < k; omega)) (by omega) (by omega) w
theorem right_2 (x : UInt32) (w : World) : Calls Tryd.prog 42 #[U32 x, .int .i64 2] w fun e w' => e = .returned (U32 (rotr x 2)) ∧ w' = w := right_of x 2 (-2) rfl (by decide +kernel) (by decide) (by decide) w
theorem right_6 (x : UInt32) (w : World) : Calls Tryd.prog 42 #[U32 x, .int .i64 6] w fun e w' => e = .returned (U32 (rotr x 6)) ∧ w' = w := right_of x 6 (-6) rfl (by decide +kernel) (by decide) (by decide) w
theorem right_7 (x : UInt32) (w : World) : Calls Tryd.prog 42 #[U32 x, .int .i64 7] w fun e w' => e = .returned (U32 (rotr x 7)) ∧ w' = w := right_of x 7 (-7) rfl (by decide +kernel) (by decide) (by decide) w
theorem right_11 (x : UInt32) (w : World) : Calls Tryd.prog 42 #[U32 x, .int .i64 11] w fun e w' => e = .returned (U32 (rotr x 11)) ∧ w' = w := right_of x 11 (-11) rfl (by decide +kernel) (by decide) (by decide) w
theorem right_13 (x : UInt32) (w : World) : Calls Tryd.prog 42 #[U32 x, .int .i64 13] w fun e w' => e = .returned (U32 (rotr x 13)) ∧ w' = w := right_of x 13 (-13) rfl (by decide +kernel) (by decide) (by decide) w
theorem right_17 (x : UInt32) (w : World) : Calls Tryd.prog 42 #[U32 x, .int .i64 17] w fun e w' => e = .returned (U32 (rotr x 17)) ∧ w' = w := right_of x 17 (-17) rfl (by decide +kernel) (by decide) (by decide) w
theorem right_18 (x : UInt32) (w : World) : Calls Tryd.prog 42 #[U32 x, .int .i64 18] w fun e w' => e = .returned (U32 (rotr x 18)) ∧ w' = w := right_of x 18 (-18) rfl (by decide +kernel) (by decide) (by decide) w
theorem right_19 (x : UInt32) (w : World) : Calls Tryd.prog 42 #[U32 x, .int .i64 19] w fun e w' => e = .returned (U32 (rotr x 19)) ∧ w' = w := right_of x 19 (-19) rfl (by decide +kernel) (by decide) (by decide) w
theorem right_22 (x : UInt32) (w : World) : Calls Tryd.prog 42 #[U32 x, .int .i64 22] w fun e w' => e = .returned (U32 (rotr x 22)) ∧ w' = w := right_of x 22 (-22) rfl (by decide +kernel) (by decide) (by decide) w
theorem right_25 (x : UInt32) (w : World) : Calls Tryd.prog 42 #[U32 x, .int .i64 25] w fun e w' => e = .returned (U32 (rotr x 25)) ∧ w' = w := right_of x 25 (-25) rfl (by decide +kernel) (by decide) (by decide) w
end Go.Proofs.YtbklcelnnmhgkaaDoor
