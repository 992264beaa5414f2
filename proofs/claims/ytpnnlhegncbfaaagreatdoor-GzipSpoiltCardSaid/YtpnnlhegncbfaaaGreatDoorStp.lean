
/- Contracts of bits.Len and of the packer's stepped, length, token. -/
import Derived.Test.YtpnnlhegncbfaaaGreatDoorGroupT
namespace Go.Proofs.YtpnnlhegncbfaaaGreatDoor
set_option maxRecDepth 20000
open Go.RowKit

theorem ofInt_i64 (a : Nat) (ha : a < 9223372036854775808) : (BitVec.ofInt 64 (a : Int)).toNat = a := by
  rw [BitVec.ofInt_natCast, BitVec.toNat_ofNat]; exact Nat.mod_eq_of_lt (by omega)
theorem i64_and_nat (a b : Nat) (ha : a < 4611686018427387904) (hb : b < 4611686018427387904) : bits .and .i64 (a : Int) (b : Int) = ((a &&& b : Nat) : Int) := by
  have hx : a &&& b ≤ a := Nat.and_le_left
  show IntKind.i64.wrap ((BitVec.ofInt 64 (a : Int) &&& BitVec.ofInt 64 (b : Int)).toNat : Int) = _
  rw [BitVec.toNat_and, ofInt_i64 a (by omega), ofInt_i64 b (by omega)]
  simp [IntKind.wrap, IntKind.bits, IntKind.signed]
  omega
theorem i64_xor_nat (a b : Nat) (ha : a < 4611686018427387904) (hb : b < 4611686018427387904) : bits .xor .i64 (a : Int) (b : Int) = ((a ^^^ b : Nat) : Int) := by
  have hx : a ^^^ b < 2 ^ 62 := Nat.xor_lt_two_pow (by omega) (by omega)
  show IntKind.i64.wrap ((BitVec.ofInt 64 (a : Int) ^^^ BitVec.ofInt 64 (b : Int)).toNat : Int) = _
  rw [BitVec.toNat_xor, ofInt_i64 a (by omega), ofInt_i64 b (by omega)]
  simp [IntKind.wrap, IntKind.bits, IntKind.signed]
  omega
theorem xor_ffff (n : Nat) (h : n ≤ 65535) : n ^^^ 65535 = 65535 - n := by
  apply Nat.eq_of_testBit_eq
  intro i
  have e1 : (65535 : Nat) = 2 ^ 16 - 1 := rfl
  have e2 : 65535 - n = 2 ^ 16 - (n + 1) := by omega
  rw [Nat.testBit_xor, e2, Nat.testBit_two_pow_sub_succ (by omega), e1, Nat.testBit_two_pow_sub_one]
  by_cases hi : i < 16
  · simp [hi]
  · have : n.testBit i = false := Nat.testBit_lt_two_pow (Nat.lt_of_lt_of_le (show n < 2 ^ 16 by omega) (Nat.pow_le_pow_right (by decide) (by omega)))
    simp [hi, this]
theorem xor_n (n : Nat) (h : n ≤ 65535) : bits .xor .i64 (n : Int) 65535 = ((65535 - n : Nat) : Int) := by
  rw [show (65535 : Int) = ((65535 : Nat) : Int) from rfl, i64_xor_nat _ _ (by omega) (by omega), xor_ffff n h]
theorem and_low (x f : Nat) (hf : f ≤ 32) (hx : x < 4611686018427387904) : bits .and .i64 (x : Int) ((2 : Int) ^ f - 1) = ((x % 2 ^ f : Nat) : Int) := by
  have hp : 2 ^ f ≤ 2 ^ 32 := Nat.pow_le_pow_right (by decide) hf
  have hp0 := Nat.two_pow_pos f
  rw [show (2 : Int) ^ f - 1 = ((2 ^ f - 1 : Nat) : Int) by rw [Int.natCast_sub hp0]; simp, i64_and_nat _ _ hx (by omega), Nat.and_two_pow_sub_one_eq_mod]
def ltab : ByteArray := ⟨#[0, 1, 2, 2, 3, 3, 3, 3, 4, 4, 4, 4, 4, 4, 4, 4, 5, 5, 5, 5, 5, 5, 5, 5, 5, 5, 5, 5, 5, 5, 5, 5, 6, 6, 6, 6, 6, 6, 6, 6, 6, 6, 6, 6, 6, 6, 6, 6, 6, 6, 6, 6, 6, 6, 6, 6, 6, 6, 6, 6, 6, 6, 6, 6, 7, 7, 7, 7, 7, 7, 7, 7, 7, 7, 7, 7, 7, 7, 7, 7, 7, 7, 7, 7, 7, 7, 7, 7, 7, 7, 7, 7, 7, 7, 7, 7, 7, 7, 7, 7, 7, 7, 7, 7, 7, 7, 7, 7, 7, 7, 7, 7, 7, 7, 7, 7, 7, 7, 7, 7, 7, 7, 7, 7, 7, 7, 7, 7, 8, 8, 8, 8, 8, 8, 8, 8, 8, 8, 8, 8, 8, 8, 8, 8, 8, 8, 8, 8, 8, 8, 8, 8, 8, 8, 8, 8, 8, 8, 8, 8, 8, 8, 8, 8, 8, 8, 8, 8, 8, 8, 8, 8, 8, 8, 8, 8, 8, 8, 8, 8, 8, 8, 8, 8, 8, 8, 8, 8, 8, 8, 8, 8, 8, 8, 8, 8, 8, 8, 8, 8, 8, 8, 8, 8, 8, 8, 8, 8, 8, 8, 8, 8, 8, 8, 8, 8, 8, 8, 8, 8, 8, 8, 8, 8, 8, 8, 8, 8, 8, 8, 8, 8, 8, 8, 8, 8, 8, 8, 8, 8, 8, 8, 8, 8, 8, 8, 8, 8, 8, 8, 8, 8, 8, 8, 8, 8]⟩
theorem ltab_size : ltab.size = 256 := by decide +kernel
theorem ltab_at : ∀ k : Nat, ∀ h : k < 256, (ltab[k]'(by rw [ltab_size]; exact h)).toNat = lenT k := by decide +kernel
set_option maxHeartbeats 1000000 in
set_option maxRecDepth 10000 in
theorem blen64_any (x : Nat) (hx : x < 65536) (w : World) : Calls Tryz.prog 104 #[.int .u64 (x : Int)] w fun e w' => e = .returned (.int .i64 (blen x : Int)) ∧ w' = w := by
  have d1 : decide (4294967296 ≤ (x : Int)) = false := decide_eq_false (by omega)
  have d2 : decide (65536 ≤ (x : Int)) = false := decide_eq_false (by omega)
  go_enter Tryz.func104, Tryz.ntmps104
  by_cases h : x < 256
  · have d3 : decide (256 ≤ (x : Int)) = false := decide_eq_false (by omega)
    have e1 : (x : Int) % 256 = (x : Int) := by omega
    go_wp2_with fail
    go_ret
    refine ⟨?_, rfl⟩
    have h1 := ltab_at x h
    have h2 := lenT_le x
    have hb : blen x = lenT x := by unfold blen; rw [if_pos h]
    have e2 : wrap64 (wrap64 ((ltab[x]'(by rw [ltab_size]; exact h)).toNat : Int)) = (blen x : Int) := by
      rw [h1, hb]; unfold wrap64; omega
    exact congrArg (fun z => Ending.returned (Value.int .i64 z)) e2
  · have d3 : decide (256 ≤ (x : Int)) = true := decide_eq_true (by omega)
    obtain ⟨y, hy⟩ : ∃ y, x / 256 = y := ⟨_, rfl⟩
    have hy2 : y < 256 := by omega
    have ey : (x : Int) / 256 = (y : Int) := by omega
    have e1 : (y : Int) % 256 = (y : Int) := by omega
    have HY := Lib.hid hy
    clear hy
    go_wp2_with fail
    go_ret
    refine ⟨?_, rfl⟩
    have h1 := ltab_at y hy2
    have h2 := lenT_le y
    have hb : blen x = 8 + lenT y := by unfold blen; rw [if_neg h, HY.out]
    have e2 : wrap64 (8 + wrap64 ((ltab[y]'(by rw [ltab_size]; exact hy2)).toNat : Int)) = (blen x : Int) := by
      rw [h1, hb]; unfold wrap64; omega
    exact congrArg (fun z => Ending.returned (Value.int .i64 z)) e2
set_option maxHeartbeats 1000000 in
set_option maxRecDepth 10000 in
theorem blen_any (x : Nat) (hx : x < 65536) (w : World) : Calls Tryz.prog 95 #[.int .u64 (x : Int)] w fun e w' => e = .returned (.int .i64 (blen x : Int)) ∧ w' = w := by
  go_enter Tryz.func95, Tryz.ntmps95
  go_wp2_with fail
  refine (blen64_any x hx w).mono ?_
  rintro e wz ⟨rfl, rfl⟩
  go_wp2_with fail
  go_ret
  exact ⟨rfl, rfl⟩
end Go.Proofs.YtpnnlhegncbfaaaGreatDoor
