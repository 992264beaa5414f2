/- Contract of the law NumOrders. -/
import Derived.Test.YtfebfkbdbncihaaGreatDoorNui
namespace Go.Proofs.YtfebfkbdbncihaaGreatDoor
set_option maxRecDepth 100000
open Go.RowKit

set_option maxHeartbeats 1000000 in
theorem same_yes (x : Nat) (w : World) : Calls Tryz.prog 13 #[.float .f64 x, .float .f64 x] w fun e w' => e = .returned (.bool true) ∧ w = w' := by
  have h1 := bits_run x
  go_enter Tryz.func13, Tryz.ntmps13
  go_wp2_with fail
  go_ret
  exact ⟨rfl, rfl⟩
set_option maxHeartbeats 1000000 in
theorem same_no (x y : Nat) (w : World) (hxy : x ≠ y) : Calls Tryz.prog 13 #[.float .f64 x, .float .f64 y] w fun e w' => e = .returned (.bool false) ∧ w = w' := by
  have h1 := bits_run x
  have h2 := bits_run y
  have h3 : ((x : Int) == (y : Int)) = false := by rw [beq_eq_false_iff_ne]; omega
  go_enter Tryz.func13, Tryz.ntmps13
  go_wp2_with fail
  go_ret
  exact ⟨rfl, rfl⟩
theorem same_any2 (x y : Nat) (w : World) (b : Bool) (hb : decide (x = y) = b) : Calls Tryz.prog 13 #[.float .f64 x, .float .f64 y] w fun e w' => e = .returned (.bool b) ∧ w = w' := by
  by_cases h : x = y
  · subst h
    have : b = true := by rw [← hb]; simp
    subst this
    exact same_yes x w
  · have : b = false := by rw [← hb]; simp [h]
    subst this
    exact same_no x y w h
set_option maxHeartbeats 1000000 in
theorem orders_any (x y z : Nat) (w : World) (hx : x < 2 ^ 64) (hy : y < 2 ^ 64) (hz : z < 2 ^ 64) (ht : NTabs w) :
    Calls Tryz.prog 7 #[.int .u64 (x : Int), .int .u64 (y : Int), .int .u64 (z : Int)] w fun e w' => e = .returned (.bool true) ∧ Below w.heap.size w w' := by
  have HA := Lib.hid (alive_any w ht)
  have f1 := frombits_run x
  have f2 := frombits_run y
  have f3 := frombits_run z
  have EXY := Lib.hid (fun wx b hb => same_any2 x y wx b hb)
  have key : (lessW x y = true ∧ lessW y x = false ∧ decide (x = y) = false ∧ nanW x = false ∧ (lessW y z = false ∨ (lessW y z = true ∧ lessW x z = true))) ∨
      (lessW x y = false ∧ lessW y x = true ∧ decide (x = y) = false ∧ nanW y = false ∧ (nanW x = true ∨ nanW x = false)) ∨
      (lessW x y = false ∧ lessW y x = false ∧ (decide (x = y) = true ∨ (decide (x = y) = false ∧ nanW x = true ∧ nanW y = true))) := by
    have hs := same_iff x y hx hy
    have ht1 := less_trans x y z
    have ht2 := less_trans x y x
    rw [less_self] at ht2
    have hn1 : nanW x = true → lessW x y = false := by intro h; unfold lessW; rw [h]; rfl
    have hn2 : nanW y = true → lessW y x = false := by intro h; unfold lessW; rw [h]; rfl
    cases h1 : lessW x y <;> cases h2 : lessW y x <;> cases h3 : decide (x = y) <;> cases h4 : nanW x <;> cases h5 : nanW y <;> cases h6 : lessW y z <;> cases h7 : lessW x z <;> simp_all
  have hxx := less_self x
  clear ht
  rcases key with ⟨a1, a2, he, a3, a4⟩ | ⟨a1, a2, he, a3, a4⟩ | ⟨a1, a2, (he | ⟨he, a3, a4⟩)⟩
  all_goals
    have HQ := Lib.hid (fun wx => EXY.out wx _ he)
    clear EXY he
    try rcases a4 with a4 | a4
    try obtain ⟨a4, a5⟩ := a4
  all_goals
    go_enter Tryz.func7, Tryz.ntmps7
    go_wp2_with fail
    refine HA.out.mono ?_
    rintro e w1 ⟨rfl, hb⟩
    have HB := Lib.hid hb
    clear hb
    go_wp2_with (first | (go_at_call 24; refine (less_any _ _ _ (by assumption) (by assumption)).mono ?_; rintro e w2 ⟨rfl, rfl⟩) | (go_at_call 25; refine (rless_any _ _ _ (by assumption) (by assumption)).mono ?_; rintro e w2 ⟨rfl, rfl⟩) |
      (go_at_call 26; refine (same_any _ _ _ (by assumption) (by assumption)).mono ?_; rintro e w2 ⟨rfl, rfl⟩) | (go_at_call 13; (with_reducible refine (HQ.out _).mono ?_); rintro e w2 ⟨rfl, rfl⟩) | (go_at_call 22; refine (isnan_any _ _).mono ?_; rintro e w2 ⟨rfl, rfl⟩))
    go_ret
    exact ⟨rfl, HB.out⟩
end Go.Proofs.YtfebfkbdbncihaaGreatDoor
