
/- Contracts of the reference's Length and Distance. -/
import Derived.Test.YtpnnlhegncbfaaaDoorGroupU
import Derived.Test.YtpnnlhegncbfaaaDoorGroupT
namespace Go.Proofs.YtpnnlhegncbfaaaDoor
set_option maxRecDepth 20000
open Go.RowKit

def moreJ (j : Nat) : Nat := if 4 ≤ j then (j - 4) / 4 else 0
theorem lenSum_step (j : Nat) : lenSum (j + 1) = lenSum j + 2 ^ moreJ j := by
  show lenSum j + 2 ^ (if 261 ≤ 257 + j then (257 + j - 261) / 4 else 0) = _
  congr 2
  unfold moreJ
  by_cases h : 4 ≤ j
  · rw [if_pos h, if_pos (by omega), show 257 + j - 261 = j - 4 by omega]
  · rw [if_neg h, if_neg (by omega)]
theorem lenSum_small : ∀ k, k < 30 → lenSum k ≤ 400 := by decide +kernel
theorem distSum_small : ∀ k, k < 31 → distSum k ≤ 40000 := by decide +kernel

set_option maxHeartbeats 1000000 in
theorem rlen_any (x : Nat) (h1 : 257 ≤ x) (h2 : x ≤ 285) (w : World) : Calls Tryd.prog 66 #[.int .i64 (x : Int)] w fun e w' => e = .returned (.tuple #[.int .i64 (lenBase x : Int), .int .i64 (lenMore x : Int)]) ∧ w' = w := by
  by_cases h285 : x = 285
  · subst h285
    rw [show lenBase 285 = 258 by decide, show lenMore 285 = 0 by decide]
    go_enter Tryd.func66, Tryd.ntmps66
    go_wp2_with fail
    go_ret2
    exact ⟨rfl, rfl⟩
  have e0 : ((x : Int) == 285) = false := by rw [beq_eq_false_iff_ne]; omega
  obtain ⟨LB, hLB⟩ : ∃ LB, lenBase x = LB := ⟨_, rfl⟩
  obtain ⟨LM, hLM⟩ : ∃ LM, lenMore x = LM := ⟨_, rfl⟩
  have HB : RowKit.Hid (LB = lenSum (x - 257)) := Lib.hid (by rw [← hLB]; unfold lenBase; rw [if_neg h285])
  have HM : RowKit.Hid (LM = if 265 ≤ x then (x - 261) / 4 else 0) := Lib.hid (by rw [← hLM]; unfold lenMore; rw [if_neg h285])
  rw [hLB, hLM]
  clear hLB hLM
  go_enter Tryd.func66, Tryd.ntmps66
  go_wp2_with fail
  obtain ⟨X, hX⟩ : ∃ X, x - 257 = X := ⟨_, rfl⟩
  have hx : 257 + X = x := by omega
  rw [hX] at HB
  clear hX
  go_loopw [4, 5, 6] (fun n m i wr => ∃ j : Nat, j ≤ X ∧ n = .int .i64 (lenSum j : Int) ∧ m = .int .i64 (moreJ (j - 1) : Int) ∧ i = .int .i64 (257 + (j : Int)) ∧ wr = w) (fun _ _ i _ => x - (intOf i).toNat)
  case atStart => exact ⟨0, Nat.zero_le _, rfl, rfl, rfl, rfl⟩
  case round =>
    obtain ⟨j, hk2, rfl, rfl, rfl, rfl⟩ := hrel
    obtain ⟨k, hk⟩ : ∃ k, 257 + j = k := ⟨_, rfl⟩
    have hki : 257 + (j : Int) = (k : Int) := by omega
    have hki2 : 257 + ((j : Int) + 1) = (k : Int) + 1 := by omega
    rw [hki]
    by_cases hlt : j < X
    · have hd : decide ((k : Int) < (x : Int)) = true := decide_eq_true (by omega)
      have HS := Lib.hid (lenSum_step j)
      have hsm := lenSum_small j (by omega)
      have hm6 : moreJ j ≤ 6 := by unfold moreJ; split <;> omega
      have hp6 : 2 ^ moreJ j ≤ 2 ^ 6 := Nat.pow_le_pow_right (by decide) hm6
      have HC : RowKit.Hid (moreJ (j + 1 - 1) = moreJ j) := Lib.hid (by rw [Nat.add_sub_cancel])
      by_cases hk3 : 4 ≤ j
      · have hd2 : decide (261 ≤ (k : Int)) = true := decide_eq_true (by omega)
        have hA : moreJ j = (j - 4) / 4 := by unfold moreJ; rw [if_pos hk3]
        obtain ⟨m, hm⟩ : ∃ m, moreJ j = m := ⟨_, rfl⟩
        rw [hm] at hm6 hp6 HS HC hA
        have e1 : ((k : Int) - 261).tdiv 4 = (m : Int) := by rw [Int.tdiv_eq_ediv_of_nonneg (by omega)]; omega
        have e2 : ((k : Int) - 261) / 4 = (m : Int) := by omega
        have e3 : IntKind.i64.wrap ((k : Int) - 261) = (k : Int) - 261 := wrap64_inT _ (by omega) (by omega)
        obtain ⟨z, hz⟩ : ∃ z, 2 ^ m = z := ⟨_, rfl⟩
        have ez : (2 : Int) ^ m = (z : Int) := by rw [← hz]; simp
        have hz6 : z ≤ 64 := by rw [← hz]; exact hp6
        rw [hz] at HS
        have HKI := Lib.hid (And.intro hki hki2)
        generalize lenSum j = y at hsm HS ⊢
        generalize moreJ (j - 1) = u
        clear hA hm hp6 hz hki hki2
        go_wp2_with fail
        go_roundw
        case rel => exact ⟨j + 1, by omega, by rw [HS.out]; simp, by rw [HC.out], by rw [← HKI.out.1]; simp; omega, by first | rfl | trivial⟩
        case measure => simp [intOf]; omega
      · have hd2 : decide (261 ≤ (k : Int)) = false := decide_eq_false (by omega)
        have hA : moreJ (j - 1) = 0 := by unfold moreJ; rw [if_neg (by omega)]
        have hA2 : moreJ j = 0 := by unfold moreJ; rw [if_neg hk3]
        rw [hA2] at HS HC
        rw [hA]
        rw [show ((0 : Nat) : Int) = 0 from rfl]
        have HKI := Lib.hid (And.intro hki hki2)
        generalize lenSum j = y at hsm HS ⊢
        clear hA hA2 hp6 hm6 hki hki2
        go_wp2_with fail
        go_roundw
        case rel => exact ⟨j + 1, by omega, by rw [HS.out]; simp, by rw [HC.out]; rfl, by rw [← HKI.out.1]; simp; omega, by first | rfl | trivial⟩
        case measure => simp [intOf]; omega
    · obtain rfl : j = X := by omega
      obtain rfl : k = x := by omega
      have hd : decide ((k : Int) < (k : Int)) = false := decide_eq_false (by omega)
      generalize moreJ (j - 1) = u
      have hsm := lenSum_small j (by omega)
      have HBE := HB
      generalize lenSum j = y at hsm HBE ⊢
      clear hki hki2
      by_cases hk3 : 265 ≤ k
      · have hd2 : decide (265 ≤ (k : Int)) = true := decide_eq_true (by omega)
        obtain ⟨m, hm⟩ : ∃ m, (k - 261) / 4 = m := ⟨_, rfl⟩
        have HME : RowKit.Hid (LM = m) := Lib.hid (by rw [HM.out, if_pos hk3, hm])
        have e1 : ((k : Int) - 261).tdiv 4 = (m : Int) := by rw [Int.tdiv_eq_ediv_of_nonneg (by omega)]; omega
        have e2 : ((k : Int) - 261) / 4 = (m : Int) := by omega
        clear hm
        go_wp2_with fail
        go_ret2
        exact ⟨by rw [HBE.out, HME.out]; rfl, rfl⟩
      · have hd2 : decide (265 ≤ (k : Int)) = false := decide_eq_false (by omega)
        have HME : RowKit.Hid (LM = 0) := Lib.hid (by rw [HM.out, if_neg hk3])
        go_wp2_with fail
        go_ret2
        exact ⟨by rw [HBE.out, HME.out]; rfl, rfl⟩

set_option maxHeartbeats 1000000 in
theorem rdist_any (x : Nat) (h2 : x ≤ 29) (w : World) : Calls Tryd.prog 68 #[.int .i64 (x : Int)] w fun e w' => e = .returned (.tuple #[.int .i64 (distSum x : Int), .int .i64 (distMore x : Int)]) ∧ w' = w := by
  obtain ⟨LB, hLB⟩ : ∃ LB, distSum x = LB := ⟨_, rfl⟩
  obtain ⟨LM, hLM⟩ : ∃ LM, distMore x = LM := ⟨_, rfl⟩
  rw [hLB, hLM]
  have HB := Lib.hid hLB
  have HLM := Lib.hid hLM
  clear hLB hLM
  go_enter Tryd.func68, Tryd.ntmps68
  go_wp2_with fail
  go_loopw [4, 5] (fun n i wr => ∃ k : Nat, k ≤ x ∧ n = .int .i64 (distSum k : Int) ∧ i = .int .i64 (k : Int) ∧ wr = w) (fun _ i _ => x - (intOf i).toNat)
  case atStart => exact ⟨0, Nat.zero_le _, rfl, rfl, rfl⟩
  case round =>
    obtain ⟨k, hk2, rfl, rfl, rfl⟩ := hrel
    by_cases hlt : k < x
    · have hd : decide ((k : Int) < (x : Int)) = true := decide_eq_true (by omega)
      have hsm := distSum_small k (by omega)
      by_cases hk3 : 2 ≤ k
      · have hd2 : decide (2 ≤ (k : Int)) = true := decide_eq_true (by omega)
        have hS : distSum (k + 1) = distSum k + 2 ^ (k / 2 - 1) := by rw [distSum, if_pos hk3]
        obtain ⟨m, hm⟩ : ∃ m, k / 2 - 1 = m := ⟨_, rfl⟩
        rw [hm] at hS
        have hm13 : m ≤ 13 := by omega
        have e1 : (k : Int).tdiv 2 - 1 = (m : Int) := by rw [Int.tdiv_eq_ediv_of_nonneg (by omega)]; omega
        have e2 : (k : Int) / 2 - 1 = (m : Int) := by omega
        have hp : 2 ^ m ≤ 2 ^ 13 := Nat.pow_le_pow_right (by decide) hm13
        obtain ⟨z, hz⟩ : ∃ z, 2 ^ m = z := ⟨_, rfl⟩
        have ez : (2 : Int) ^ m = (z : Int) := by rw [← hz]; simp
        have hz6 : z ≤ 8192 := by rw [← hz]; exact hp
        rw [hz] at hS
        have HS := Lib.hid hS
        generalize distSum k = y at hsm HS ⊢
        clear hS hm hp hz
        go_wp2_with fail
        go_roundw
        case rel => exact ⟨k + 1, by omega, by rw [HS.out]; simp, by simp, by first | rfl | trivial⟩
        case measure => simp [intOf]; omega
      · have hd2 : decide (2 ≤ (k : Int)) = false := decide_eq_false (by omega)
        have HS : RowKit.Hid (distSum (k + 1) = distSum k + 1) := Lib.hid (by rw [distSum, if_neg hk3])
        generalize distSum k = y at hsm HS ⊢
        go_wp2_with fail
        go_roundw
        case rel => exact ⟨k + 1, by omega, by rw [HS.out]; simp, by simp, by first | rfl | trivial⟩
        case measure => simp [intOf]; omega
    · obtain rfl : k = x := by omega
      have hd : decide ((k : Int) < (k : Int)) = false := decide_eq_false (by omega)
      have hsm := distSum_small k (by omega)
      have HBE := HB
      generalize distSum k = y at hsm HBE ⊢
      by_cases hk3 : k < 4
      · have hd2 : decide ((k : Int) < 4) = true := decide_eq_true (by omega)
        have HM : RowKit.Hid (distMore k = 0) := Lib.hid (by unfold distMore; rw [if_pos hk3])
        go_wp2_with fail
        go_ret2
        exact ⟨by rw [← HBE.out, ← HLM.out, HM.out]; rfl, rfl⟩
      · have hd2 : decide ((k : Int) < 4) = false := decide_eq_false (by omega)
        have HM : RowKit.Hid (distMore k = k / 2 - 1) := Lib.hid (by unfold distMore; rw [if_neg hk3])
        obtain ⟨m, hm⟩ : ∃ m, k / 2 - 1 = m := ⟨_, rfl⟩
        rw [hm] at HM
        have e1 : (k : Int).tdiv 2 - 1 = (m : Int) := by rw [Int.tdiv_eq_ediv_of_nonneg (by omega)]; omega
        have e2 : (k : Int) / 2 - 1 = (m : Int) := by omega
        clear hm
        go_wp2_with fail
        go_ret2
        exact ⟨by rw [← HBE.out, ← HLM.out, HM.out]; rfl, rfl⟩
end Go.Proofs.YtpnnlhegncbfaaaDoor
