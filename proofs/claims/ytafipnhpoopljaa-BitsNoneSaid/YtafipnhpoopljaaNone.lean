/- Contract of the law BitsNone. -/
import Derived.Test.YtafipnhpoopljaaWmt
namespace Go.Proofs.Ytafipnhpoopljaa
open Go.RowKit

set_option maxHeartbeats 1000000 in
theorem none_any (k n x : Int) (A : Option Addr) (m c : Nat) (w : World) :
    Calls Try.prog 6 #[.agg #[.int .i64 k, .int .i64 n, .int .u32 x, .slice A m c]] w fun e w' => e = .returned (.bool true) ∧ Below w.heap.size w w' := by
  go_enter Try.func6, Try.ntmps6
  go_wp2_with fail
  have hrow := Row.new w #[.int .i64 k, .int .i64 n, .int .u32 x, .slice A m c] 32
  have hb0 : Below w.heap.size w (w.alloc (.cells #[.int .i64 k, .int .i64 n, .int .u32 x, .slice A m c] 32)) := (Below.refl _ _).alloc (Nat.le_refl _) _
  generalize w.alloc (.cells #[.int .i64 k, .int .i64 n, .int .u32 x, .slice A m c] 32) = w0 at hrow hb0 ⊢
  refine (alive_true w0).mono ?_
  rintro e w1 ⟨rfl, hb1⟩
  have hr1 := hrow.below hb1 hrow.lt
  have hc1 := hr1.cell 1
  have hc2 := hr1.cell 2
  have hc3 := hr1.cell 3
  have HB1 := Lib.hid (hb0.trans (hb1.mono hb0.size))
  generalize w.heap.size = H at hc1 hc2 hc3 ⊢
  change w1.cell? ⟨H, 1, none⟩ = some (.int .i64 n) at hc1
  change w1.cell? ⟨H, 2, none⟩ = some (.int .u32 x) at hc2
  change w1.cell? ⟨H, 3, none⟩ = some (.slice A m c) at hc3
  clear hb0 hb1 hr1 hrow
  go_wp2_with fail
  refine (rbits_nil n w1).mono ?_
  rintro e w1' ⟨rfl, rfl⟩
  go_wp2_with fail
  refine (rpeek_nil n w1').mono ?_
  rintro e w1 ⟨rfl, rfl⟩
  go_wp2_with fail
  refine (rbytes_nil n w1).mono ?_
  rintro e w1' ⟨rfl, rfl⟩
  go_wp2_with fail
  refine (ralign_nil w1').mono ?_
  rintro e w1 ⟨rfl, rfl⟩
  go_wp2_with fail
  refine (at_nil w1).mono ?_
  rintro e w1' ⟨rfl, rfl⟩
  go_wp2_with fail
  refine (left_nil w1').mono ?_
  rintro e w1 ⟨rfl, rfl⟩
  go_wp2_with fail
  refine (walign_nil w1).mono ?_
  rintro e w1' ⟨rfl, rfl⟩
  go_wp2_with fail
  refine (wlen_nil w1').mono ?_
  rintro e w1 ⟨rfl, rfl⟩
  go_wp2_with fail
  refine (wtext_nil w1).mono ?_
  rintro e w1' ⟨rfl, rfl⟩
  go_wp2_with fail
  refine (is_none w1').mono ?_
  rintro e w1 ⟨rfl, rfl⟩
  go_wp2_with fail
  refine (is_none w1).mono ?_
  rintro e w1' ⟨rfl, rfl⟩
  go_wp2_with fail
  refine (put_nil x n w1').mono ?_
  rintro e w1 ⟨rfl, rfl⟩
  go_wp2_with fail
  refine (is_none w1).mono ?_
  rintro e w1' ⟨rfl, rfl⟩
  go_wp2_with fail
  refine (code_nil x n w1').mono ?_
  rintro e w1 ⟨rfl, rfl⟩
  go_wp2_with fail
  refine (is_none w1).mono ?_
  rintro e w1' ⟨rfl, rfl⟩
  go_wp2_with fail
  refine (wbytes_nil _ w1').mono ?_
  rintro e w1 ⟨rfl, rfl⟩
  go_wp2_with fail
  refine (is_none w1).mono ?_
  rintro e w1' ⟨rfl, rfl⟩
  go_wp2_with fail
  go_ret
  exact ⟨rfl, HB1.out⟩
end Go.Proofs.Ytafipnhpoopljaa
