/- Contract of a file's number, where bytes don't lack. -/
import Derived.Test.YtpnnlhegncbfaaaGreatDoorGzf
namespace Go.Proofs.YtpnnlhegncbfaaaGreatDoor
set_option maxRecDepth 20000
open Go.RowKit

theorem gor32 (y x k : Nat) (hy : y < 2 ^ (8 * k)) (hx : x < 256) (hk : k < 4) : bits .or .u32 (y : Int) ((x : Int) % 4294967296 * 2 ^ (8 * k) % 4294967296) = ((y + x * 2 ^ (8 * k) : Nat) : Int) := by
  have h8 : 2 ^ (8 * k) ≤ 16777216 := by
    have := Nat.pow_le_pow_right (show 0 < 2 by decide) (show 8 * k ≤ 24 by omega)
    exact this
  have h1 : x * 2 ^ (8 * k) ≤ 255 * 16777216 := Nat.mul_le_mul (by omega) h8
  have h2 : (x : Int) % 4294967296 * 2 ^ (8 * k) % 4294967296 = ((x * 2 ^ (8 * k) : Nat) : Int) := by
    rw [show (x : Int) % 4294967296 = (x : Int) by omega]
    have : (x : Int) * 2 ^ (8 * k) = ((x * 2 ^ (8 * k) : Nat) : Int) := by simp
    rw [this]; omega
  rw [h2, u32_or_nat _ _ (by omega) (by omega), or_add _ _ _ hy]
set_option maxHeartbeats 4000000 in
theorem number_ok (g : Nat) (A : Option Addr) (n c : Nat) (b : List UInt8) (lim : Nat) (v : Value) (at_ st : Nat) (text : List UInt8) (m : Nat) (w : World) (h : FS w g A n c b lim v at_ st text) (hm : at_ + m ≤ n) (h4 : m ≤ 4) :
    Calls Tryz.prog 53 #[.pointer (some ⟨g, 0, none⟩), .int .i64 (m : Int)] w fun e w' => e = .returned (.int .u32 (numL ((b.drop at_).take m) : Int)) ∧ FS w' g A n c b lim v (at_ + m) st text ∧ w.grownBy w' (some g) := by
  have HT := Lib.hid (take_ok g A n c b lim v at_ st text m w h hm)
  have hpl : ((b.drop at_).take m).length = m := by rw [List.length_take, List.length_drop, h.len]; omega
  generalize (b.drop at_).take m = P at HT hpl ⊢
  have HPL := Lib.hid hpl
  clear h hm hpl
  go_enter Tryz.func53, Tryz.ntmps53
  go_wp2_with fail
  refine HT.out.mono ?_
  rintro e w1 ⟨A1, c1, rfl, hr1, hm1, hf1, hg1⟩
  have HR := Lib.hid hr1
  have HF := Lib.hid (And.intro hf1 hg1)
  clear hr1 hm1 hf1 hg1 HT
  go_wp2_with fail
  go_loopw [5, 12] (fun x i wr => ∃ k : Nat, i = .int .i64 (k : Int) ∧ k ≤ m ∧ x = .int .u32 (numL (P.take k) : Int) ∧ wr = w1) (fun _ i _ => m - (intOf i).toNat)
  case atStart => exact ⟨0, rfl, Nat.zero_le _, rfl, rfl⟩
  case round =>
    obtain ⟨k, rfl, hk, rfl, rfl⟩ := hrel
    by_cases hlt : k < m
    · have d1 : decide ((k : Int) < (m : Int)) = true := decide_eq_true (by omega)
      obtain ⟨q, o, x, rfl, hq, hx, hc⟩ := HR.out.at8 hlt
      have hxk : numL (P.take (k + 1)) = numL (P.take k) + x.toNat * 2 ^ (8 * k) := by
        rw [take_more hx, numL_append, List.length_take]
        simp [numL, HPL.out, Nat.min_eq_left hk]
        rw [Nat.mul_comm]
      have HXK := Lib.hid hxk
      have hy : numL (P.take k) < 2 ^ (8 * k) := by
        have := numL_lt (P.take k)
        rwa [List.length_take, HPL.out, Nat.min_eq_left hk] at this
      have HO := Lib.hid (gor32 (numL (P.take k)) x.toNat k hy x.toNat_lt (by omega))
      clear hx hxk hq hy
      generalize numL (P.take k) = y at HXK HO ⊢
      go_wp2_with fail
      go_roundw
      case rel => exact ⟨k + 1, by simp, by omega, by rw [HO.out, HXK.out], trivial⟩
      case measure => simp [intOf]; omega
    · have hkm : k = m := by omega
      subst hkm
      have d1 : decide ((k : Int) < (k : Int)) = false := decide_eq_false (by omega)
      have HE : RowKit.Hid (P.take k = P) := Lib.hid (List.take_of_length_le (by rw [HPL.out]; exact Nat.le_refl _))
      rw [HE.out]
      obtain ⟨y, HY⟩ : ∃ y, RowKit.Hid (numL P = y) := ⟨_, Lib.hid rfl⟩
      rw [HY.out]
      go_wp2_with fail
      go_ret
      exact ⟨by rw [HY.out]; rfl, HF.out⟩
end Go.Proofs.YtpnnlhegncbfaaaGreatDoor
