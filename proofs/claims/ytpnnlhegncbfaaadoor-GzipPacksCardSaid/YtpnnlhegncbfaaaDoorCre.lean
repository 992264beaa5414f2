
/- Contracts of the reference's Add and Of: bit by bit. -/
import Derived.Test.YtpnnlhegncbfaaaDoorGroupW
namespace Go.Proofs.YtpnnlhegncbfaaaDoor
set_option maxRecDepth 20000
open Go.RowKit

theorem rh32 (x : UInt32) : (x.toNat : Int) / 2 = ((half x).toNat : Int) := by
  rw [half, UInt32.toNat_shiftRight]
  show _ = ((x.toNat >>> 1 : Nat) : Int)
  rw [Nat.shiftRight_eq_div_pow]
  omega
theorem rp32 (x : UInt32) : bits .xor .u32 (x.toNat : Int) 3988292384 = ((x32 x poly).toNat : Int) := rx32 x poly
theorem rt32 (x : UInt32) : bits .xor .u32 (x.toNat : Int) 4294967295 = ((n32 x).toNat : Int) := by
  have := rx32 x 4294967295
  rw [x32, turn_xor] at this
  exact this
theorem rm32 (x : UInt32) : (x.toNat : Int) % 4294967296 = (x.toNat : Int) := by have := u32_lt x; omega
def odd (x : UInt32) : Bool := x.toBitVec.getLsbD 0
theorem odd_mod (x : UInt32) : odd x = decide (x.toNat % 2 = 1) := by
  show x.toBitVec.toNat.testBit 0 = _
  rw [Nat.testBit_zero]
  rfl
theorem ro32 (x : UInt32) : ((x.toNat : Int) % 2 == 1) = odd x := by
  rw [odd_mod]
  by_cases h : x.toNat % 2 = 1
  · rw [decide_eq_true h, beq_iff_eq]; omega
  · rw [decide_eq_false h, beq_eq_false_iff_ne]; omega
theorem sh_odd (x : UInt32) (h : odd x = true) : sh x = x32 (half x) poly := by
  unfold sh; rw [if_pos (show x.toBitVec.getLsbD 0 = true from h)]; rfl
theorem sh_even (x : UInt32) (h : odd x = false) : sh x = half x := by
  unfold sh; rw [if_neg (show ¬ x.toBitVec.getLsbD 0 = true from fun e => Bool.false_ne_true (h.symm.trans e)), UInt32.xor_zero]; rfl

set_option maxHeartbeats 400000 in
theorem radd_any (s : UInt32) (A : Option Addr) (n c : Nat) (l : List UInt8) (w : World) (hr : Rd w w.heap.size A n (us l)) (hn : n ≤ 1000000) :
    Calls Tryd.prog 44 #[U32 s, .slice A n c] w fun e w' => e = .returned (U32 (addP s l)) ∧ w' = w := by
  have hl : l.length = n := by have := hr.1; rwa [us_length] at this
  have e0 := rt32
  have HL := Lib.hid hl
  have HR := Lib.hid hr
  clear hl hr
  go_enter Tryd.func44, Tryd.ntmps44
  go_wp2_with fail
  go_loopw [5, 6] (fun r i wr => ∃ k : Nat, k ≤ n ∧ r = U32 (reg (n32 s) (l.take k)) ∧ i = .int .i64 k ∧ wr = w) (fun _ i _ => n - (intOf i).toNat)
  case atStart => exact ⟨0, by omega, rfl, rfl, rfl⟩
  case round =>
    obtain ⟨k, hk, rfl, rfl, rfl⟩ := hrel
    by_cases hlt : k < n
    · have hdk : decide ((k : Int) < (n : Int)) = true := decide_eq_true (by omega)
      obtain ⟨g, o, x, rfl, hg, hx, hc⟩ := HR.out.at8 hlt
      obtain ⟨r, HRR⟩ : ∃ r, RowKit.Hid (reg (n32 s) (l.take k) = r) := ⟨_, Lib.hid rfl⟩
      rw [HRR.out]
      have HX := Lib.hid hx
      have e1 := rb32 x
      have e2 := rx32 r (b32 x)
      have HG := Lib.hid hg
      clear hx hg
      go_wp2_with fail
      go_loopw [5, 7] (fun r' i wr' => ∃ j : Nat, j ≤ 8 ∧ r' = U32 (sn j (x32 r (b32 x))) ∧ i = .int .i64 j ∧ wr' = wr) (fun _ i _ => 8 - (intOf i).toNat)
      case atStart => exact ⟨0, by omega, rfl, rfl, rfl⟩
      case round =>
        obtain ⟨j, hj, rfl, rfl, rfl⟩ := hrel
        by_cases hjt : j < 8
        · have hdj : decide ((j : Int) < 8) = true := decide_eq_true (by omega)
          obtain ⟨y, HY⟩ : ∃ y, RowKit.Hid (sn j (x32 r (b32 x)) = y) := ⟨_, Lib.hid rfl⟩
          have HS : RowKit.Hid (sn (j + 1) (x32 r (b32 x)) = sh y) := Lib.hid (by rw [sn_succ, HY.out])
          rw [HY.out]
          have e3 := rh32 y
          have e4 := rp32 (half y)
          have e5 := ro32 y
          have e6 := rm32 (half y)
          cases ho : odd y with
          | true =>
            rw [ho] at e5
            have HE : RowKit.Hid (sh y = x32 (half y) poly) := Lib.hid (sh_odd y ho)
            clear ho
            go_wp2_with fail
            go_roundw
            case rel => exact ⟨j + 1, by omega, by rw [HS.out, HE.out], by simp, trivial⟩
            case measure => simp [intOf]; omega
          | false =>
            rw [ho] at e5
            have HE : RowKit.Hid (sh y = half y) := Lib.hid (sh_even y ho)
            clear ho
            go_wp2_with fail
            go_roundw
            case rel => exact ⟨j + 1, by omega, by rw [HS.out, HE.out], by simp, trivial⟩
            case measure => simp [intOf]; omega
        · have hj8 : j = 8 := by omega
          subst hj8
          have hdj : decide (((8 : Nat) : Int) < 8) = false := rfl
          have HB : RowKit.Hid (reg (n32 s) (l.take (k + 1)) = sn 8 (x32 r (b32 x))) := Lib.hid (by rw [reg_more _ _ _ _ HX.out, HRR.out]; rfl)
          generalize sn 8 (x32 r (b32 x)) = z at HB ⊢
          go_wp2_with fail
          go_roundw
          case rel => exact ⟨k + 1, by omega, by rw [HB.out], by simp, trivial⟩
          case measure => simp [intOf]; omega
    · have hkn : k = n := by omega
      subst hkn
      have hdk : decide ((k : Int) < (k : Int)) = false := decide_eq_false (by omega)
      have HE : RowKit.Hid (addP s l = n32 (reg (n32 s) (l.take k))) := Lib.hid (by rw [List.take_of_length_le (by have := HL.out; omega)]; rfl)
      generalize reg (n32 s) (l.take k) = r at HE ⊢
      go_wp2_with fail
      go_ret
      exact ⟨by rw [HE.out]; rfl, rfl⟩

set_option maxHeartbeats 400000 in
theorem crof_any (A : Option Addr) (n c : Nat) (l : List UInt8) (w : World) (hr : Rd w w.heap.size A n (us l)) (hn : n ≤ 1000000) :
    Calls Tryd.prog 32 #[.slice A n c] w fun e w' => e = .returned (U32 (addP 0 l)) ∧ w' = w := by
  have HR := Lib.hid hr
  clear hr
  go_enter Tryd.func32, Tryd.ntmps32
  go_wp2_with fail
  refine (radd_any 0 A n c l w HR.out hn).mono ?_
  rintro e w1 ⟨rfl, rfl⟩
  go_wp2_with fail
  go_ret
  exact ⟨rfl, rfl⟩
end Go.Proofs.YtpnnlhegncbfaaaDoor
