/- Contracts of the library's reading of a float, at the text of -0. -/
import Derived.Test.YtfebfkbdbncihaaGreatDoorNue
import Derived.Test.YtfebfkbdbncihaaGreatDoorNuf
import Derived.WalkMore
import Derived.Deep.LoopGhost
namespace Go.Proofs.YtfebfkbdbncihaaGreatDoor
set_option maxRecDepth 100000
open Go.RowKit

/-- The text -0.0. -/
def negz : List UInt8 := [45, 48, 46, 48]
set_option maxHeartbeats 1000000 in
theorem lower_any (c : Int) (w : World) : Calls Tryz.prog 131 #[.int .u8 c] w fun e w' => e = .returned (.int .u8 (bits .or .u8 c 32)) ∧ w = w' :=
  (Tryz.internal_strconv_lower c w).mono fun _ _ ⟨h1, h2⟩ => ⟨h1, h2.symm⟩
set_option maxHeartbeats 1000000 in
/-- No text that begins with a figure begins with a word of letters. -/
theorem cpl_any (c : UInt8) (l : List UInt8) (p : UInt8) (q : List UInt8) (w : World) (hd : dig c = true) (hp : 57 < p.toNat) (hl : l.length ≤ 1000000) (hq : q.length ≤ 1000) :
    Calls Tryz.prog 153 #[.string (tx (c :: l)), .string (tx (p :: q))] w fun e w' => e = .returned (.int .i64 0) ∧ w = w' := by
  have h1 := idx (c :: l) 0 c rfl
  have h2 := idx (p :: q) 0 p rfl
  rw [Int.natCast_zero] at h1 h2
  have hs1 : (tx (c :: l)).size = l.length + 1 := tx_size _
  have hs2 : (tx (p :: q)).size = q.length + 1 := tx_size _
  unfold dig at hd
  rw [Bool.and_eq_true] at hd
  have d1 := of_decide_eq_true hd.1
  have d2 := of_decide_eq_true hd.2
  generalize tx (c :: l) = s at h1 hs1 ⊢
  generalize tx (p :: q) = t at h2 hs2 ⊢
  generalize c.toNat = m at h1 d1 d2
  generalize p.toNat = n at h2 hp
  obtain ⟨a, hla⟩ : ∃ a, l.length + 1 = a := ⟨_, rfl⟩
  obtain ⟨b, hqb⟩ : ∃ b, q.length + 1 = b := ⟨_, rfl⟩
  rw [hla] at hs1
  rw [hqb] at hs2
  have ha1 : 1 ≤ a := by omega
  have ha2 : a ≤ 1000001 := by omega
  have hb1 : 1 ≤ b := by omega
  have hb2 : b ≤ 1001 := by omega
  clear hla hqb hl hq
  clear hd
  have ha : ¬ (65 : Int) ≤ (m : Int) := by omega
  have hne : ((m : Int) != (n : Int)) = true := by rw [bne_iff_ne]; omega
  obtain ⟨z, hz0, hz, hz2⟩ : ∃ z : Nat, 0 < z ∧ min (b : Int) (a : Int) = (z : Int) ∧ z ≤ 1000001 := ⟨min b a, by omega, by omega, by omega⟩
  have HZ := Lib.hid hz
  clear hz
  go_enter Tryz.func153, Tryz.ntmps153
  go_wp2_with fail
  rw [HZ.out]
  go_loop [6] (fun i => i = .int .i64 0) (fun _ => 0)
  case atStart => rfl
  case round =>
    subst hrel
    go_wp2_with fail
    go_ret
    exact ⟨rfl, rfl⟩
/-- A number's text begins with a figure, perhaps behind its sign. -/
def numB (l : List UInt8) : Prop := ∃ c t, dig c = true ∧ (l = c :: t ∨ l = 45 :: c :: t)
set_option maxHeartbeats 1000000 in
theorem special_fig (c : UInt8) (t : List UInt8) (w : World) (hd : dig c = true) :
    Calls Tryz.prog 113 #[.string (tx (c :: t))] w fun e w' => e = .returned (.tuple #[.float .f64 0, .int .i64 0, .bool false]) ∧ w = w' := by
  have h1 := idx (c :: t) 0 c rfl
  rw [Int.natCast_zero] at h1
  have hs1 : (tx (c :: t)).size = t.length + 1 := tx_size _
  unfold dig at hd
  rw [Bool.and_eq_true] at hd
  have d1 := of_decide_eq_true hd.1
  have d2 := of_decide_eq_true hd.2
  clear hd
  generalize tx (c :: t) = s at h1 hs1 ⊢
  have e1 : ((c.toNat : Int) == 43) = false := by rw [beq_eq_false_iff_ne]; omega
  have e2 : ((c.toNat : Int) == 45) = false := by rw [beq_eq_false_iff_ne]; omega
  have e3 : ((c.toNat : Int) == 105) = false := by rw [beq_eq_false_iff_ne]; omega
  have e4 : ((c.toNat : Int) == 73) = false := by rw [beq_eq_false_iff_ne]; omega
  have e5 : ((c.toNat : Int) == 110) = false := by rw [beq_eq_false_iff_ne]; omega
  have e6 : ((c.toNat : Int) == 78) = false := by rw [beq_eq_false_iff_ne]; omega
  generalize (c.toNat : Int) = m at *
  clear d1 d2
  generalize t.length = n at *
  go_enter Tryz.func113, Tryz.ntmps113
  go_wp2_with fail
  refine bodyPost_ret (results_tmp3 rfl _ _ _) rfl ?_
  exact ⟨rfl, rfl⟩
set_option maxHeartbeats 1000000 in
theorem special_neg (c : UInt8) (t : List UInt8) (w : World) (hd : dig c = true) (hl : t.length ≤ 100000) :
    Calls Tryz.prog 113 #[.string (tx (45 :: c :: t))] w fun e w' => e = .returned (.tuple #[.float .f64 0, .int .i64 0, .bool false]) ∧ w = w' := by
  have h1 := idx (45 :: c :: t) 0 45 rfl
  rw [Int.natCast_zero] at h1
  have hs1 : (tx (45 :: c :: t)).size = t.length + 2 := tx_size _
  have he : (tx (45 :: c :: t)).extract 1 (t.length + 2) = tx (c :: t) := by
    rw [tx_extract, show (45 :: c :: t).take (t.length + 2) = 45 :: c :: t by rw [List.take_of_length_le (by simp)]]
    rfl
  have HC := Lib.hid (fun w => cpl_any c t 105 [110, 102, 105, 110, 105, 116, 121] w hd (by decide) (by omega) (by decide))
  have HP : RowKit.Hid (tx [105, 110, 102, 105, 110, 105, 116, 121] = ⟨#[105, 110, 102, 105, 110, 105, 116, 121]⟩) := Lib.hid rfl
  rw [HP.out] at HC
  clear HP
  generalize tx (45 :: c :: t) = s at h1 hs1 he ⊢
  generalize tx (c :: t) = s1 at he HC
  generalize t.length = n at *
  go_enter Tryz.func113, Tryz.ntmps113
  go_wp2_with (first | (go_at_call 153; refine (HC.out _).mono ?_; rintro e w1 ⟨rfl, rfl⟩))
  refine bodyPost_ret (results_tmp3 rfl _ _ _) rfl ?_
  exact ⟨rfl, rfl⟩
set_option maxHeartbeats 8000000 in
theorem readf_negz (w : World) : Calls Tryz.prog 114 #[.string (tx negz)] w fun e w' => e = .returned (.tuple #[.int .u64 0, .int .i64 0, .bool true, .bool false, .bool false, .int .i64 4, .bool true]) ∧ w = w' := by
  have h0 := idx negz 0 45 rfl
  have h1 := idx negz 1 48 rfl
  have h2 := idx negz 2 46 rfl
  have h3 := idx negz 3 48 rfl
  rw [Int.natCast_zero] at h0
  rw [show ((1 : Nat) : Int) = 1 from rfl] at h1
  rw [show ((2 : Nat) : Int) = 2 from rfl] at h2
  rw [show ((3 : Nat) : Int) = 3 from rfl] at h3
  have hs : (tx negz).size = 4 := rfl
  generalize tx negz = s at *
  have hlo : bits .or .u8 46 32 = 46 := by decide
  go_enter Tryz.func114, Tryz.ntmps114
  go_wp2_with (first | (go_at_call 131; refine (lower_any _ _).mono ?_; rintro e w1 ⟨rfl, rfl⟩))
  go_step3
  go_wp2_with (first | (go_at_call 131; refine (lower_any _ _).mono ?_; rintro e w1 ⟨rfl, rfl⟩))
  go_step3
  go_wp2_with fail
  go_loop [2, 5, 7, 9, 13, 14, 15, 16, 17] (fun m tr i us dot dg nd ndm dp => m = .int .u64 0 ∧ tr = .bool false ∧ us = .bool false ∧ nd = .int .i64 0 ∧ ndm = .int .i64 0 ∧
    ((i = .int .i64 1 ∧ dot = .bool false ∧ dg = .bool false ∧ dp = .int .i64 0) ∨ (i = .int .i64 2 ∧ dot = .bool false ∧ dg = .bool true ∧ dp = .int .i64 (-1)) ∨
     (i = .int .i64 3 ∧ dot = .bool true ∧ dg = .bool true ∧ dp = .int .i64 0) ∨ (i = .int .i64 4 ∧ dot = .bool true ∧ dg = .bool true ∧ dp = .int .i64 (-1)))) (fun _ _ i _ _ _ _ _ _ => 4 - (intOf i).toNat)
  case atStart => exact ⟨rfl, rfl, rfl, rfl, rfl, .inl ⟨rfl, rfl, rfl, rfl⟩⟩
  case round =>
    obtain ⟨rfl, rfl, rfl, rfl, rfl, (⟨rfl, rfl, rfl, rfl⟩ | ⟨rfl, rfl, rfl, rfl⟩ | ⟨rfl, rfl, rfl, rfl⟩ | ⟨rfl, rfl, rfl, rfl⟩)⟩ := hrel
    · go_wp2_with fail
      go_round
      case rel => exact ⟨rfl, rfl, rfl, rfl, rfl, .inr (.inl ⟨rfl, rfl, rfl, rfl⟩)⟩
      case measure => simp [intOf]
    · go_wp2_with fail
      go_round
      case rel => exact ⟨rfl, rfl, rfl, rfl, rfl, .inr (.inr (.inl ⟨rfl, rfl, rfl, rfl⟩))⟩
      case measure => simp [intOf]
    · go_wp2_with fail
      go_round
      case rel => exact ⟨rfl, rfl, rfl, rfl, rfl, .inr (.inr (.inr ⟨rfl, rfl, rfl, rfl⟩))⟩
      case measure => simp [intOf]
    · go_wp2_with fail
      exact bodyPost_ret (v := .tuple #[.int .u64 0, .int .i64 0, .bool true, .bool false, .bool false, .int .i64 4, .bool true]) (by simp [results, Tryz.results114, go_sem]) rfl ⟨rfl, rfl⟩
end Go.Proofs.YtfebfkbdbncihaaGreatDoor
