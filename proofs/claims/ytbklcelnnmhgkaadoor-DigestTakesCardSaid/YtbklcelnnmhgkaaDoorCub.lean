/- Contracts of the reference's cube and square. -/
import Derived.Test.YtbklcelnnmhgkaaDoorAbv
namespace Go.Proofs.YtbklcelnnmhgkaaDoor
open Go.RowKit

theorem low_le (n k : Nat) : k ≤ 36 → lowP n k + 2 ^ (36 - k) ≤ 2 ^ 36 := by
  induction k with
  | zero => intro _; show 0 + 2 ^ 36 ≤ 2 ^ 36; omega
  | succ k ih =>
    intro h
    have h1 := ih (by omega)
    have h2 : 2 ^ (36 - k) = 2 ^ (35 - k) + 2 ^ (35 - k) := by rw [show 36 - k = (35 - k) + 1 by omega, Nat.pow_succ]; omega
    have h3 : 36 - (k + 1) = 35 - k := by omega
    rw [h3]
    have h4 : lowP n (k + 1) = lowStep n k (lowP n k) := rfl
    rw [h4]
    generalize lowP n k = l at h1
    unfold lowStep
    rw [h2] at h1
    generalize 2 ^ (35 - k) = r at h1
    generalize 2 ^ 36 = m at h1
    cases aboveP (l + r) n
    · show l + r + r ≤ m; omega
    · show l + r ≤ m; omega

set_option maxHeartbeats 400000 in
theorem cube_any (n : Nat) (w : World) : Calls Tryd.prog 28 #[U64 n] w fun e w' => e = .returned (U32 (cubeP n)) ∧ Below w.heap.size w w' := by
  go_enter Tryd.func28, Tryd.ntmps28
  go_wp2_with fail
  go_loopw [3, 4] (fun a b wr => ∃ k low q : Nat, k ≤ 36 ∧ RowKit.Hid (lowP n k = low) ∧ RowKit.Hid (2 ^ (36 - k) = q) ∧ a = .int .u64 (low : Int) ∧ b = .int .u64 ((low : Int) + (q : Int)) ∧ Below w.heap.size w wr) (fun a b _ => (intOf b - intOf a).toNat)
  case atStart => exact ⟨0, 0, 2 ^ 36, by omega, Lib.hid rfl, Lib.hid rfl, rfl, rfl, Below.refl _ _⟩
  case round =>
    obtain ⟨k, low, q, hk, HLo, HQ, rfl, rfl, hb⟩ := hrel
    have hle := low_le n k hk
    rw [HLo.out, HQ.out] at hle
    have hle2 : low + q ≤ 68719476736 := hle
    clear hle
    have HB := Lib.hid hb
    clear hb
    by_cases hlt : k < 36
    · obtain ⟨r, hr⟩ : ∃ r, 2 ^ (35 - k) = r := ⟨_, rfl⟩
      have hq : q = r + r := by rw [← HQ.out, ← hr, show 36 - k = (35 - k) + 1 by omega, Nat.pow_succ]; omega
      have hrp : 0 < r := by rw [← hr]; exact Nat.pos_of_ne_zero (by simp)
      subst hq
      have HR := Lib.hid hr
      clear hr
      have hm : ((low : Int) + ((low : Int) + ((r : Int) + (r : Int)))) / 2 = ((low + r : Nat) : Int) := by omega
      have HS : RowKit.Hid (lowP n (k + 1) = bif aboveP (low + r) n then low else low + r) := Lib.hid (by
        show lowStep n k (lowP n k) = _
        rw [HLo.out]
        unfold lowStep
        rw [HR.out])
      have hd : decide ((1 : Int) < (r : Int) + (r : Int)) = true := decide_eq_true (by omega)
      have hrr : ((r + r : Nat) : Int) = (r : Int) + (r : Int) := by omega
      rw [hrr]
      clear hrr
      go_wp2_with fail
      rw [hm]
      refine (above_any (low + r) n wr).mono ?_
      rintro e w2 ⟨rfl, hb2⟩
      have HB2 := Lib.hid (HB.out.trans (hb2.mono HB.out.size))
      clear hb2 hm
      cases hab : aboveP (low + r) n
      · go_wp2_with fail
        go_roundw
        case rel => exact ⟨k + 1, low + r, r, by omega, Lib.hid (by rw [HS.out, hab]; rfl), Lib.hid (by rw [← HR.out, show 36 - (k + 1) = 35 - k by omega]), by simp, by simp; omega, HB2.out⟩
        case measure => simp [intOf]; omega
      · go_wp2_with fail
        go_roundw
        case rel => exact ⟨k + 1, low, r, by omega, Lib.hid (by rw [HS.out, hab]; rfl), Lib.hid (by rw [← HR.out, show 36 - (k + 1) = 35 - k by omega]), by simp, by simp, HB2.out⟩
        case measure => simp [intOf]; omega
    · have hk36 : k = 36 := by omega
      subst hk36
      obtain rfl : q = 1 := by rw [← HQ.out]
      have hlow := rwN low
      have hval : (low : Int) % 4294967296 = ((cubeP n).toNat : Int) := by
        unfold cubeP
        rw [HLo.out, UInt32.toNat_ofNat']
        omega
      have hv2 : ((lowN low : Nat) : Int) % 4294967296 = ((cubeP n).toNat : Int) := by rw [← hval]; unfold lowN; omega
      obtain ⟨cv, Hcv⟩ : ∃ c, RowKit.Hid (cubeP n = c) := ⟨_, Lib.hid rfl⟩
      rw [Hcv.out] at hv2
      clear hval
      have hone : ((1 : Nat) : Int) = 1 := rfl
      rw [hone]
      go_wp2_with fail
      go_ret
      exact ⟨by rw [Hcv.out]; rfl, HB.out⟩

theorem whole_eq : ∀ n : Fin 20, ∀ k : Fin 21, k.val * k.val ≤ n.val → n.val < (k.val + 1) * (k.val + 1) → wholeP n.val = k.val := by decide +kernel

set_option maxHeartbeats 400000 in
theorem square_any (n : Nat) (w : World) (hn : n < 20) : Calls Tryd.prog 29 #[U64 n] w fun e w' => e = .returned (U32 (squareP n)) ∧ Below w.heap.size w w' := by
  go_enter Tryd.func29, Tryd.ntmps29
  go_wp2_with fail
  go_loopw [3] (fun a wr => ∃ k q : Nat, k ≤ 20 ∧ a = .int .u64 (k : Int) ∧ RowKit.Hid (k * k = q) ∧ q ≤ n ∧ Below w.heap.size w wr) (fun a _ => 21 - (intOf a).toNat)
  case atStart => exact ⟨0, 0, by omega, rfl, Lib.hid rfl, by omega, Below.refl _ _⟩
  case round =>
    obtain ⟨k, q, hk, rfl, HQ, hq, hbw⟩ := hrel
    have HBW := Lib.hid hbw
    clear hbw
    obtain ⟨q2, HQ2⟩ : ∃ q2, RowKit.Hid ((k + 1) * (k + 1) = q2) := ⟨_, Lib.hid rfl⟩
    have hw2 : IntKind.u64.wrap (((k : Int) + 1) * ((k : Int) + 1)) = (q2 : Int) := by
      have h1 : ((k : Int) + 1) * ((k : Int) + 1) = ((q2 : Nat) : Int) := by rw [← HQ2.out]; simp
      have h2 : q2 ≤ 21 * 21 := by rw [← HQ2.out]; exact Nat.mul_le_mul (by omega) (by omega)
      rw [h1, IntKind.wrap_u64]
      omega
    have hq2b : q2 ≤ 441 := by rw [← HQ2.out]; exact Nat.mul_le_mul (show k + 1 ≤ 21 by omega) (show k + 1 ≤ 21 by omega)
    by_cases hc : q2 ≤ n
    · have hk2 : k < 20 := by
        have h2 : (k + 1) * (k + 1) ≤ n := by rw [HQ2.out]; exact hc
        have h3 : (k + 1) * 1 ≤ (k + 1) * (k + 1) := Nat.mul_le_mul_left _ (by omega)
        omega
      go_wp2_with fail
      go_roundw
      case rel => exact ⟨k + 1, q2, by omega, by simp, HQ2, hc, HBW.out⟩
      case measure => simp [intOf]; omega
    · have hlt : n < q2 := by omega
      have HWH : RowKit.Hid (wholeP n = k) := Lib.hid (whole_eq ⟨n, hn⟩ ⟨k, by omega⟩ (by show k * k ≤ n; rw [HQ.out]; exact hq) (by show n < (k + 1) * (k + 1); rw [HQ2.out]; exact hlt))
      have hkk : IntKind.u64.wrap ((k : Int) * (k : Int)) = (q : Int) := by
        have h1 : (k : Int) * (k : Int) = ((q : Nat) : Int) := by rw [← HQ.out]; simp
        rw [h1, IntKind.wrap_u64]
        omega
      have hkb : k ≤ 20 := hk
      have hr0 : n - q ≤ 2 * k := by
        have h1 := HQ2.out
        have h2 := HQ.out
        have h3 : (k + 1) * (k + 1) = k * k + 2 * k + 1 := by rw [Nat.add_mul, Nat.mul_add]; omega
        omega
      obtain ⟨r0, hr0e⟩ : ∃ r, n - q = r := ⟨_, rfl⟩
      have hsub : (n : Int) - (q : Int) = (r0 : Int) := by omega
      rw [hr0e] at hr0
      have HS0 : RowKit.Hid (sqP k n 0 = (k, r0)) := Lib.hid (by show (k, n - k * k) = _; rw [HQ.out, hr0e])
      clear hr0e hk
      go_wp2_with fail
      clear hw2 hkk hq2b hc hlt
      go_loopw [4, 5, 6] (fun a b i wr => ∃ j root rest p : Nat, j ≤ 32 ∧ i = .int .i64 j ∧ a = .int .u64 (root : Int) ∧ b = .int .u64 (rest : Int) ∧ RowKit.Hid (sqP k n j = (root, rest)) ∧ RowKit.Hid (2 ^ j = p) ∧ root + 1 ≤ 21 * p ∧ p ≤ 4294967296 ∧ rest ≤ 2 * root ∧ Below w.heap.size w wr) (fun _ _ i _ => 32 - (intOf i).toNat)
      case atStart => exact ⟨0, k, r0, 1, by omega, rfl, rfl, rfl, HS0, Lib.hid rfl, by omega, by omega, hr0, HBW.out⟩
      case round =>
        obtain ⟨j, root, rest, p, hj, rfl, rfl, rfl, HSQ, HP, hb1, hb2, hb3, hbw⟩ := hrel
        clear HBW
        have HBW := Lib.hid hbw
        clear hbw
        have HB1 := Lib.hid hb1
        have HB2 := Lib.hid hb2
        have HB3 := Lib.hid hb3
        have hrb : root < 100000000000 := by omega
        have hsb : rest < 200000000000 := by omega
        clear hb1 hb2 hb3
        by_cases hlt : j < 32
        · have hdj : decide ((j : Int) < 32) = true := decide_eq_true (by omega)
          have HPB : RowKit.Hid (p + p ≤ 4294967296) := Lib.hid (by
            rw [← HP.out, ← Nat.mul_two, ← Nat.pow_succ]
            exact Nat.pow_le_pow_right (by decide) (by omega : j + 1 ≤ 32))
          have HP2 : RowKit.Hid (2 ^ (j + 1) = p + p) := Lib.hid (by rw [Nat.pow_succ, HP.out]; omega)
          by_cases hc : 2 * (root * 2) + 1 ≤ rest * 4
          · have hc1 : 2 * ((root : Int) * 2) + 1 ≤ (rest : Int) * 4 := by omega
            have HSN : RowKit.Hid (sqP k n (j + 1) = (root * 2 + 1, rest * 4 - (2 * (root * 2) + 1))) := Lib.hid (by show sqStep (sqP k n j) = _; rw [HSQ.out]; unfold sqStep; rw [if_pos hc])
            have HC := Lib.hid hc
            clear hc
            go_wp2_with fail
            go_roundw
            case rel =>
              have h1 := HB1.out
              have h3 := HB3.out
              have hcc := HC.out
              exact ⟨j + 1, root * 2 + 1, rest * 4 - (2 * (root * 2) + 1), p + p, by omega, by simp, by simp, by congr 1; omega, HSN, HP2, by omega, HPB.out, by omega, HBW.out⟩
            case measure => simp [intOf]; omega
          · have hc1 : (rest : Int) * 4 < 2 * ((root : Int) * 2) + 1 := by omega
            have HSN : RowKit.Hid (sqP k n (j + 1) = (root * 2, rest * 4)) := Lib.hid (by show sqStep (sqP k n j) = _; rw [HSQ.out]; unfold sqStep; rw [if_neg hc])
            have HC := Lib.hid hc
            clear hc
            go_wp2_with fail
            go_roundw
            case rel =>
              have h1 := HB1.out
              have h3 := HB3.out
              have hcc := HC.out
              exact ⟨j + 1, root * 2, rest * 4, p + p, by omega, by simp, by simp, by simp, HSN, HP2, by omega, HPB.out, by omega, HBW.out⟩
            case measure => simp [intOf]; omega
        · have hj32 : j = 32 := by omega
          subst hj32
          have hdj : decide (((32 : Nat) : Int) < 32) = false := rfl
          have hlow := rwN root
          have hv2 : ((lowN root : Nat) : Int) % 4294967296 = ((squareP n).toNat : Int) := by
            unfold squareP lowN
            rw [HWH.out, HSQ.out, UInt32.toNat_ofNat']
            omega
          obtain ⟨cv, Hcv⟩ : ∃ c, RowKit.Hid (squareP n = c) := ⟨_, Lib.hid rfl⟩
          rw [Hcv.out] at hv2
          go_wp2_with fail
          go_ret
          exact ⟨by rw [Hcv.out]; show Ending.returned (.int .u32 (((lowN root : Nat) : Int) % 4294967296)) = _; rw [hv2], HBW.out⟩
end Go.Proofs.YtbklcelnnmhgkaaDoor
