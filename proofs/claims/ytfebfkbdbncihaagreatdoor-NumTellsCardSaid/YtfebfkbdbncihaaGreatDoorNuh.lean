/- Contracts of IsInf and Abs; of ParseFloat and Float at the text of -0. -/
import Derived.Test.YtfebfkbdbncihaaGreatDoorNug
namespace Go.Proofs.YtfebfkbdbncihaaGreatDoor
set_option maxRecDepth 100000
open Go.RowKit

theorem andnot_sign (x : Nat) (hx : x < 2 ^ 64) : bits .andNot .u64 (x : Int) 9223372036854775808 = ((x % 2 ^ 63 : Nat) : Int) := by
  show IntKind.u64.wrap ((BitVec.ofInt 64 (x : Int) &&& ~~~ BitVec.ofInt 64 9223372036854775808).toNat : Int) = _
  have h1 : BitVec.ofInt 64 (x : Int) = BitVec.ofNat 64 x := BitVec.ofInt_natCast 64 x
  have h2 : (~~~ BitVec.ofInt 64 9223372036854775808 : BitVec 64) = BitVec.ofNat 64 (2 ^ 63 - 1) := by decide
  rw [h1, h2, BitVec.toNat_and, BitVec.toNat_ofNat, BitVec.toNat_ofNat, Nat.mod_eq_of_lt hx, Nat.mod_eq_of_lt (show 2 ^ 63 - 1 < 2 ^ 64 by decide), Nat.and_two_pow_sub_one_eq_mod]
  unfold IntKind.wrap
  simp [IntKind.signed, IntKind.bits]
  omega
theorem frombits123 (x : Nat) (w : World) : (callFunc 123 #[.int .u64 (x : Int)]).run Tryz.prog w = .ok (.value (.float .f64 x)) w := by
  rw [run_callFunc_extern Tryz.func123 (by kernel_rfl) (by kernel_rfl) (by kernel_rfl) (e := Extern.MathFloatBits.float64frombits) (by kernel_rfl)]
  rfl
set_option maxHeartbeats 1000000 in
theorem abs_any (x : Nat) (w : World) (hx : x < 2 ^ 64) : Calls Tryz.prog 37 #[.float .f64 x] w fun e w' => e = .returned (.float .f64 (x % 2 ^ 63)) ∧ w = w' := by
  have h1 := bits_run x
  have h2 := andnot_sign x hx
  have h3 := frombits_run (x % 2 ^ 63)
  generalize x % 2 ^ 63 = y at h2 h3 ⊢
  go_enter Tryz.func37, Tryz.ntmps37
  go_wp2_with fail
  go_ret
  exact ⟨rfl, rfl⟩
/-- Is a word an infinity? -/
def infW (x : Nat) : Bool := decide (rung x = infR)
set_option maxHeartbeats 1000000 in
theorem isinf_any (x : Nat) (w : World) (hx : x < 2 ^ 64) (hn : nanW x = false) : Calls Tryz.prog 23 #[.float .f64 x, .int .i64 0] w fun e w' => e = .returned (.bool (infW x)) ∧ w = w' := by
  have HA := Lib.hid (fun w => abs_any x w hx)
  have hr : (ord (x % 2 ^ 63) 9218868437227405311 == some .gt) = infW x := by
    unfold nanW at hn
    have hn := of_decide_eq_false hn
    have r1 : rung (x % 2 ^ 63) = rung x := by unfold rung; omega
    have n1 : negW (x % 2 ^ 63) = false := by unfold negW; rw [beq_eq_false_iff_ne]; omega
    have r2 : rung 9218868437227405311 = infR - 1 := by decide
    have n2 : negW 9218868437227405311 = false := by decide
    rw [ord_def, order_rank _ _ (by unfold nanW; rw [r1]; exact decide_eq_false hn) (by unfold nanW; rw [r2]; decide)]
    have k1 : rank (x % 2 ^ 63) = (mr (rung x) : Int) := by unfold rank; rw [n1, r1]; rfl
    have k2 : rank 9218868437227405311 = (mr (infR - 1) : Int) := by unfold rank; rw [n2, r2]; rfl
    rw [k1, k2]
    unfold infW
    by_cases h : rung x = infR
    · rw [decide_eq_true h, h, Int.compare_eq_gt.2 (by have := mr_lt (show infR - 1 < infR by decide); omega)]; rfl
    · rw [decide_eq_false h]
      have h3 : mr (rung x) ≤ mr (infR - 1) := mr_le.2 (by omega)
      rcases Nat.lt_or_ge (mr (rung x)) (mr (infR - 1)) with h4 | h4
      · rw [Int.compare_eq_lt.2 (by omega)]; rfl
      · rw [Int.compare_eq_eq.2 (by omega)]; rfl
  have HR := Lib.hid hr
  clear hr
  generalize x % 2 ^ 63 = y at HA HR
  go_enter Tryz.func23, Tryz.ntmps23
  go_wp2_with (first | (go_at_call 37; refine (HA.out _).mono ?_; rintro e w1 ⟨rfl, rfl⟩))
  go_ret
  exact ⟨congrArg (fun b => Ending.returned (.bool b)) HR.out, rfl⟩
set_option maxHeartbeats 1000000 in
theorem bool2_true (w : World) : Calls Tryz.prog 122 #[.bool true] w fun e w' => e = .returned (.int .u64 1) ∧ w = w' := by
  go_enter Tryz.func122, Tryz.ntmps122
  go_wp2_with fail
  go_ret
  exact ⟨rfl, rfl⟩
set_option maxHeartbeats 1000000 in
theorem bool2_false (w : World) : Calls Tryz.prog 122 #[.bool false] w fun e w' => e = .returned (.int .u64 0) ∧ w = w' := by
  go_enter Tryz.func122, Tryz.ntmps122
  go_wp2_with fail
  go_ret
  exact ⟨rfl, rfl⟩
set_option maxHeartbeats 8000000 in
theorem atof_negz (w : World) (ht : NTabs w) : Calls Tryz.prog 82 #[.string (tx negz)] w fun e w' => e = .returned (.tuple #[.float .f64 9223372036854775808, .int .i64 4, .nilIface]) ∧ w = w' := by
  have ho := ht.opt
  have hf := frombits123 9223372036854775808
  rw [show ((9223372036854775808 : Nat) : Int) = 9223372036854775808 from rfl] at hf
  have HS := Lib.hid (special_neg 48 [46, 48])
  have HR := Lib.hid readf_negz
  have hneg : tx (45 :: 48 :: [46, 48]) = tx negz := rfl
  rw [hneg] at HS
  clear hneg ht
  generalize tx negz = s at *
  go_enter Tryz.func82, Tryz.ntmps82
  go_wp2_with (first | (go_at_call 113; refine (HS.out _ (by decide) (by decide)).mono ?_; rintro e w1 ⟨rfl, rfl⟩) | (go_at_call 114; refine (HR.out _).mono ?_; rintro e w1 ⟨rfl, rfl⟩))
  refine (bool2_true _).mono ?_
  rintro e w1 ⟨rfl, rfl⟩
  have hor : bits .or .u64 9223372036854775808 0 = 9223372036854775808 := by decide
  go_wp2_with fail
  refine bodyPost_ret (results_tmp3 rfl _ _ _) rfl ?_
  exact ⟨rfl, rfl⟩
set_option maxHeartbeats 1000000 in
theorem pfp_negz (w : World) (ht : NTabs w) : Calls Tryz.prog 53 #[.string (tx negz), .int .i64 64] w fun e w' => e = .returned (.tuple #[.float .f64 9223372036854775808, .int .i64 4, .nilIface]) ∧ w = w' := by
  have HA := Lib.hid (atof_negz w ht)
  generalize tx negz = s at *
  go_enter Tryz.func53, Tryz.ntmps53
  go_wp2_with (first | (go_at_call 82; refine HA.out.mono ?_; rintro e w1 ⟨rfl, rfl⟩))
  refine bodyPost_ret (results_tmp3 rfl _ _ _) rfl ?_
  exact ⟨rfl, rfl⟩
set_option maxHeartbeats 1000000 in
theorem pfi_negz (w : World) (ht : NTabs w) : Calls Tryz.prog 39 #[.string (tx negz), .int .i64 64] w fun e w' => e = .returned (.tuple #[.float .f64 9223372036854775808, .nilIface]) ∧ w = w' := by
  have HA := Lib.hid (pfp_negz w ht)
  have hs : (tx negz).size = 4 := rfl
  generalize tx negz = s at *
  go_enter Tryz.func39, Tryz.ntmps39
  go_wp2_with (first | (go_at_call 53; refine HA.out.mono ?_; rintro e w1 ⟨rfl, rfl⟩))
  go_ret2
  exact ⟨rfl, rfl⟩
set_option maxHeartbeats 1000000 in
theorem pf_negz (w : World) (ht : NTabs w) : Calls Tryz.prog 29 #[.string (tx negz), .int .i64 64] w fun e w' => e = .returned (.tuple #[.float .f64 9223372036854775808, .nilIface]) ∧ w = w' := by
  have HA := Lib.hid (pfi_negz w ht)
  generalize tx negz = s at *
  go_enter Tryz.func29, Tryz.ntmps29
  go_wp2_with (first | (go_at_call 39; refine HA.out.mono ?_; rintro e w1 ⟨rfl, rfl⟩))
  go_ret2
  exact ⟨rfl, rfl⟩
end Go.Proofs.YtfebfkbdbncihaaGreatDoor
