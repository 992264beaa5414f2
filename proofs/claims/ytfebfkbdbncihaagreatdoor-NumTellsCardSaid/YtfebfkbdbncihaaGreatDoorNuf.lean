/- Contracts of Less and Same, and of the reference's Less: the order of floats by their words. -/
import Derived.Test.YtfebfkbdbncihaaGreatDoorSml
import Derived.Test.YtfebfkbdbncihaaGreatDoorNup
import Derived.Laws.FloatArith
import Derived.BigQuiet
namespace Go.Proofs.YtfebfkbdbncihaaGreatDoor
set_option maxRecDepth 20000
open Go.RowKit

/-- How two words stand to each other, in the walk's own spelling. -/
abbrev ord (x y : Nat) : Option Ordering := FloatKind.f64.format.order x y
theorem ord_def (x y : Nat) : ord x y = Ieee.double.order x y := rfl
theorem beq_none (o : Ordering) : ((none : Option Ordering) == some o) = false := by cases o <;> rfl
set_option maxHeartbeats 400000 in
theorem isnan_any (x : Nat) (w : World) : Calls Tryz.prog 22 #[.float .f64 x] w fun e w' => e = .returned (.bool (nanW x)) ∧ w = w' := by
  have h : (ord x x != some .eq) = nanW x := by
    rw [ord_def]
    cases hx : nanW x
    · rw [order_rank x x hx hx, Int.compare_eq_eq.2 rfl]; rfl
    · rw [order_nan1 x x hx]; rfl
  have H := Lib.hid h
  clear h
  go_enter Tryz.func22, Tryz.ntmps22
  go_wp2_with fail
  go_ret
  exact ⟨congrArg (fun b => Ending.returned (.bool b)) H.out, rfl⟩
theorem bits_run (x : Nat) (w : World) : (callFunc 30 #[.float .f64 x]).run Tryz.prog w = .ok (.value (.int .u64 (x : Int))) w := by
  rw [run_callFunc_extern Tryz.func30 (by kernel_rfl) (by kernel_rfl) (by kernel_rfl) (e := Extern.MathFloatBits.float64bits) (by kernel_rfl)]
  rfl
theorem frombits_run (x : Nat) (w : World) : (callFunc 19 #[.int .u64 (x : Int)]).run Tryz.prog w = .ok (.value (.float .f64 x)) w := by
  rw [run_callFunc_extern Tryz.func19 (by kernel_rfl) (by kernel_rfl) (by kernel_rfl) (e := Extern.MathFloatBits.float64frombits) (by kernel_rfl)]
  rfl
set_option maxHeartbeats 400000 in
theorem signbit_any (x : Nat) (w : World) (hx : x < 2 ^ 64) : Calls Tryz.prog 33 #[.float .f64 x] w fun e w' => e = .returned (.bool (negW x)) ∧ w = w' := by
  have hb := bits_run x
  have hn : negW x = decide (2 ^ 63 ≤ x) := by
    unfold negW
    by_cases h : 2 ^ 63 ≤ x
    · rw [decide_eq_true h, beq_iff_eq]; omega
    · rw [decide_eq_false h, beq_eq_false_iff_ne]; omega
  have H := Lib.hid hn
  clear hn
  go_enter Tryz.func33, Tryz.ntmps33
  go_wp2_with fail
  go_ret
  refine ⟨congrArg (fun b => Ending.returned (.bool b)) ?_, rfl⟩
  rw [H.out]
  unfold wrap64
  apply decide_eq_decide.2
  omega
/-- The bools of an equality, as the walk spells them. -/
theorem neq_beq (a b : Option Ordering) : (a != b) = !(a == b) := rfl
theorem negW_key (x : Nat) : (negW x = true → key x ≤ -1) ∧ (negW x = false → 0 ≤ key x) := by
  unfold key
  constructor
  · intro h; rw [if_pos h]; omega
  · intro h; rw [if_neg (by rw [h]; decide)]; omega
theorem zero_key (x : Nat) (h : zeroW x = true) : key x = if negW x then -1 else 0 := by
  unfold zeroW at h
  have h := of_decide_eq_true h
  unfold key
  rw [h]
  split <;> rfl
set_option maxHeartbeats 1000000 in
theorem less_any (x y : Nat) (w : World) (hx64 : x < 2 ^ 64) (hy64 : y < 2 ^ 64) : Calls Tryz.prog 24 #[.float .f64 x, .float .f64 y] w fun e w' => e = .returned (.bool (lessW x y)) ∧ w = w' := by
  cases hx : nanW x
  · cases hy : nanW y
    · have hl : lessW x y = decide (key x < key y) := by unfold lessW; rw [hx, hy]; rfl
      have he := order_eq x y hx hy
      cases hz : (zeroW x && zeroW y)
      · rw [hz, Bool.false_or] at he
        by_cases hk : key x = key y
        · have hn : negW x = negW y := by
            have h1 := negW_key x
            have h2 := negW_key y
            cases a : negW x <;> cases b : negW y <;> simp_all <;> omega
          have hf : lessW x y = false := by rw [hl, hk]; simp
          rw [decide_eq_true hk] at he
          rw [hf]
          have h1 : (ord x y == some .eq) = true := he
          cases hn1 : negW x
          · have hn2 : negW y = false := by rw [← hn, hn1]
            clear hl he hz hk hn hf
            go_enter Tryz.func24, Tryz.ntmps24
            go_wp2_with (first | (go_at_call 22; refine (isnan_any _ _).mono ?_; rintro e w' ⟨rfl, rfl⟩) | (go_at_call 33; refine (signbit_any _ _ (by assumption)).mono ?_; rintro e w' ⟨rfl, rfl⟩))
            go_ret
            exact ⟨rfl, rfl⟩
          · have hn2 : negW y = true := by rw [← hn, hn1]
            clear hl he hz hk hn hf
            go_enter Tryz.func24, Tryz.ntmps24
            go_wp2_with (first | (go_at_call 22; refine (isnan_any _ _).mono ?_; rintro e w' ⟨rfl, rfl⟩) | (go_at_call 33; refine (signbit_any _ _ (by assumption)).mono ?_; rintro e w' ⟨rfl, rfl⟩))
            go_ret
            exact ⟨rfl, rfl⟩
        · rw [decide_eq_false hk] at he
          have h1 : (ord x y == some .eq) = false := he
          have h2 : (ord x y == some .lt) = lessW x y := by rw [hl]; exact order_lt x y hx hy hz
          have H := Lib.hid h2
          clear hl he hz hk h2
          go_enter Tryz.func24, Tryz.ntmps24
          go_wp2_with (first | (go_at_call 22; refine (isnan_any _ _).mono ?_; rintro e w' ⟨rfl, rfl⟩))
          go_ret
          exact ⟨congrArg (fun b => Ending.returned (.bool b)) H.out, rfl⟩
      · rw [hz, Bool.true_or] at he
        rw [Bool.and_eq_true] at hz
        have h1 : (ord x y == some .eq) = true := he
        have hr : lessW x y = (negW x && !negW y) := by
          rw [hl, zero_key x hz.1, zero_key y hz.2]
          cases negW x <;> cases negW y <;> rfl
        rw [hr]
        clear hl he hz hr
        cases hn1 : negW x <;> cases hn2 : negW y
        all_goals
          go_enter Tryz.func24, Tryz.ntmps24
          go_wp2_with (first | (go_at_call 22; refine (isnan_any _ _).mono ?_; rintro e w' ⟨rfl, rfl⟩) | (go_at_call 33; refine (signbit_any _ _ (by assumption)).mono ?_; rintro e w' ⟨rfl, rfl⟩))
          go_ret
          exact ⟨rfl, rfl⟩
    · have hl : lessW x y = true := by unfold lessW; rw [hx, hy]; rfl
      rw [hl]
      clear hl
      go_enter Tryz.func24, Tryz.ntmps24
      go_wp2_with (first | (go_at_call 22; refine (isnan_any _ _).mono ?_; rintro e w' ⟨rfl, rfl⟩))
      go_ret
      exact ⟨rfl, rfl⟩
  · have hl : lessW x y = false := by unfold lessW; rw [hx]; rfl
    rw [hl]
    clear hl
    go_enter Tryz.func24, Tryz.ntmps24
    go_wp2_with (first | (go_at_call 22; refine (isnan_any _ _).mono ?_; rintro e w' ⟨rfl, rfl⟩))
    go_ret
    exact ⟨rfl, rfl⟩
set_option maxHeartbeats 1000000 in
theorem same_any (x y : Nat) (w : World) (hx64 : x < 2 ^ 64) (hy64 : y < 2 ^ 64) : Calls Tryz.prog 26 #[.float .f64 x, .float .f64 y] w fun e w' => e = .returned (.bool (!lessW x y && !lessW y x)) ∧ w = w' := by
  cases h1 : lessW x y <;> cases h2 : lessW y x
  all_goals
    go_enter Tryz.func26, Tryz.ntmps26
    go_wp2_with (first | (go_at_call 24; refine (less_any _ _ _ (by assumption) (by assumption)).mono ?_; rintro e w' ⟨rfl, rfl⟩))
    go_ret
    exact ⟨rfl, rfl⟩
theorem zero_word (x : Nat) (hx : x < 2 ^ 64) (h : zeroW x = true) : x = 0 ∨ x = 9223372036854775808 := by
  unfold zeroW rung at h
  have h := of_decide_eq_true h
  omega
theorem quo_zero (w : World) : (binOp .quo 28 (.float .f64 4607182418800017408) (.float .f64 0)).run Tryz.prog w = .ok (.float .f64 9218868437227405312) w := run_float_arith w .quo 28 .f64 _ _ _ (by kernel_rfl)
theorem quo_negz (w : World) : (binOp .quo 28 (.float .f64 4607182418800017408) (.float .f64 9223372036854775808)).run Tryz.prog w = .ok (.float .f64 18442240474082181120) w := run_float_arith w .quo 28 .f64 _ _ _ (by kernel_rfl)
set_option maxHeartbeats 1000000 in
theorem rless_any (x y : Nat) (w : World) (hx64 : x < 2 ^ 64) (hy64 : y < 2 ^ 64) : Calls Tryz.prog 25 #[.float .f64 x, .float .f64 y] w fun e w' => e = .returned (.bool (lessW x y)) ∧ w = w' := by
  cases hx : nanW x
  · have hxx : (ord x x == some .eq) = true := by rw [ord_def, order_rank x x hx hx, Int.compare_eq_eq.2 rfl]; rfl
    have hxn : (ord x x != some .eq) = false := by rw [neq_beq, hxx]; rfl
    cases hy : nanW y
    · have hyy : (ord y y == some .eq) = true := by rw [ord_def, order_rank y y hy hy, Int.compare_eq_eq.2 rfl]; rfl
      have hyn : (ord y y != some .eq) = false := by rw [neq_beq, hyy]; rfl
      have hl : lessW x y = decide (key x < key y) := by unfold lessW; rw [hx, hy]; rfl
      have z1 : (ord x 0 == some .eq) = zeroW x := order_zero x hx
      have z2 : (ord y 0 == some .eq) = zeroW y := order_zero y hy
      cases hz : (zeroW x && zeroW y)
      · have h2 : (ord x y == some .lt) = lessW x y := by rw [hl]; exact order_lt x y hx hy hz
        have H := Lib.hid h2
        cases hzx : zeroW x
        · rw [hzx] at z1
          clear hl hz h2 z2
          go_enter Tryz.func25, Tryz.ntmps25
          go_wp2_with fail
          go_ret
          exact ⟨congrArg (fun b => Ending.returned (.bool b)) H.out, rfl⟩
        · have hzy : zeroW y = false := by rw [hzx] at hz; simpa using hz
          rw [hzx] at z1
          rw [hzy] at z2
          clear hl hz h2
          go_enter Tryz.func25, Tryz.ntmps25
          go_wp2_with fail
          go_ret
          exact ⟨congrArg (fun b => Ending.returned (.bool b)) H.out, rfl⟩
      · rw [Bool.and_eq_true] at hz
        have q1 := quo_zero
        have q2 := quo_negz
        clear hl z1 z2 hxx hxn hyy hyn hx hy
        rcases zero_word x hx64 hz.1 with rfl | rfl <;> rcases zero_word y hy64 hz.2 with rfl | rfl
        all_goals
          clear hz
          go_enter Tryz.func25, Tryz.ntmps25
          go_wp2_with fail
          go_ret
          exact ⟨rfl, rfl⟩
    · have hyn : (ord y y != some .eq) = true := by rw [ord_def, order_nan1 y y hy]; rfl
      have hl : lessW x y = true := by unfold lessW; rw [hx, hy]; rfl
      rw [hl]
      clear hl
      go_enter Tryz.func25, Tryz.ntmps25
      go_wp2_with fail
      go_ret
      exact ⟨rfl, rfl⟩
  · have hxn : (ord x x != some .eq) = true := by rw [ord_def, order_nan1 x x hx]; rfl
    have hl : lessW x y = false := by unfold lessW; rw [hx]; rfl
    rw [hl]
    clear hl
    go_enter Tryz.func25, Tryz.ntmps25
    go_wp2_with fail
    go_ret
    exact ⟨rfl, rfl⟩
end Go.Proofs.YtfebfkbdbncihaaGreatDoor
