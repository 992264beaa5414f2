/- Contract of the reference's sign. -/
import Derived.Test.YtpgpdckjnmpdoaaFrom
namespace Go.Proofs.Ytpgpdckjnmpdoaa
open Go.RowKit

def TS (way : Bool) : ByteArray := if way then SU else SB

theorem sgA : ∀ (way : Bool) (i : Fin 64), i.val < 26 → ((sg (TS way) i.val).toNat : Int) = 65 + (i.val : Int) := by decide +kernel
theorem sgB : ∀ (way : Bool) (i : Fin 64), ¬ i.val < 26 → i.val < 52 → ((sg (TS way) i.val).toNat : Int) = 97 + (i.val : Int) - 26 := by decide +kernel
theorem sgC : ∀ (way : Bool) (i : Fin 64), ¬ i.val < 52 → i.val < 62 → ((sg (TS way) i.val).toNat : Int) = 48 + (i.val : Int) - 52 := by decide +kernel
theorem sgD : ∀ (way : Bool), ((sg (TS way) 62).toNat : Int) = if way then 45 else 43 := by decide +kernel
theorem sgE : ∀ (way : Bool), ((sg (TS way) 63).toNat : Int) = if way then 95 else 47 := by decide +kernel

set_option maxHeartbeats 400000 in
theorem sign_any (i : Nat) (way : Bool) (w : World) (hi : i < 64) : Calls Try.prog 21 #[.int .i64 (i : Int), .bool way] w fun e w' => e = .returned (.int .u8 ((sg (TS way) i).toNat : Int)) ∧ w = w' := by
  by_cases h26 : i < 26
  · rw [sgA way ⟨i, hi⟩ h26]
    go_enter Try.func21, Try.ntmps21
    go_wp2_with fail
    go_ret
    exact ⟨rfl, rfl⟩
  by_cases h52 : i < 52
  · rw [sgB way ⟨i, hi⟩ h26 h52]
    go_enter Try.func21, Try.ntmps21
    go_wp2_with fail
    go_ret
    exact ⟨rfl, rfl⟩
  by_cases h62 : i < 62
  · rw [sgC way ⟨i, hi⟩ h52 h62]
    go_enter Try.func21, Try.ntmps21
    go_wp2_with fail
    go_ret
    exact ⟨rfl, rfl⟩
  clear h26 h52
  by_cases h : i = 62
  · subst h
    rw [sgD]
    cases way
    · go_enter Try.func21, Try.ntmps21
      go_wp2_with fail
      go_ret
      exact ⟨rfl, rfl⟩
    · go_enter Try.func21, Try.ntmps21
      go_wp2_with fail
      go_ret
      exact ⟨rfl, rfl⟩
  · have h3 : i = 63 := by omega
    subst h3
    clear h h62 hi
    rw [sgE]
    cases way
    · go_enter Try.func21, Try.ntmps21
      go_wp2_with fail
      go_ret
      exact ⟨rfl, rfl⟩
    · go_enter Try.func21, Try.ntmps21
      go_wp2_with fail
      go_ret
      exact ⟨rfl, rfl⟩
end Go.Proofs.Ytpgpdckjnmpdoaa
