
/- Contracts of Fixed, of the reference's Fixed, and of crossdocknum's Ints. -/
import Derived.Test.YtnadnokjhinmcaaMth
namespace Go.Proofs.Ytnadnokjhinmcaa
open Go.RowKit

/-- The fixed length of a letter. -/
def fixL (k : Nat) : Nat := if k < 144 then 8 else if k < 256 then 9 else if k < 280 then 7 else 8
set_option maxHeartbeats 400000 in
set_option maxRecDepth 10000 in
theorem fixed_len (k : Nat) (w : World) : Calls Try.prog 54 #[.int .i64 (k : Int)] w fun e w' => e = .returned (.int .i64 (fixL k : Int)) ∧ w' = w := by
  unfold fixL
  by_cases h1 : k < 144
  · have d1 : decide ((k : Int) < 144) = true := decide_eq_true (by omega)
    rw [if_pos h1]
    go_enter Try.func54, Try.ntmps54
    go_wp2_with fail
    go_ret
    exact ⟨rfl, rfl⟩
  · have d1 : decide ((k : Int) < 144) = false := decide_eq_false (by omega)
    rw [if_neg h1]
    by_cases h2 : k < 256
    · have d2 : decide ((k : Int) < 256) = true := decide_eq_true (by omega)
      rw [if_pos h2]
      go_enter Try.func54, Try.ntmps54
      go_wp2_with fail
      go_ret
      exact ⟨rfl, rfl⟩
    · have d2 : decide ((k : Int) < 256) = false := decide_eq_false (by omega)
      rw [if_neg h2]
      by_cases h3 : k < 280
      · have d3 : decide ((k : Int) < 280) = true := decide_eq_true (by omega)
        rw [if_pos h3]
        go_enter Try.func54, Try.ntmps54
        go_wp2_with fail
        go_ret
        exact ⟨rfl, rfl⟩
      · have d3 : decide ((k : Int) < 280) = false := decide_eq_false (by omega)
        rw [if_neg h3]
        go_enter Try.func54, Try.ntmps54
        go_wp2_with fail
        go_ret
        exact ⟨rfl, rfl⟩

/-- A function up to a place. -/
def upTo (f : Nat → Nat) (k : Nat) : Nat → Nat := fun j => if j < k then f j else 0
theorem upTo_more (f : Nat → Nat) (k : Nat) : upTo f (k + 1) = upd (upTo f k) k (f k) := by
  funext j
  unfold upTo upd
  by_cases h1 : j = k
  · subst h1; simp
  · rw [if_neg h1]
    show _ = if j < k then f j else 0
    by_cases h2 : j < k
    · rw [if_pos h2, if_pos (by omega)]
    · rw [if_neg h2, if_neg (by omega)]
theorem upTo_all (f : Nat → Nat) (n : Nat) : ia (upTo f n) n = ia f n := ia_congr fun i hi => by unfold upTo; rw [if_pos hi]
theorem upTo_zero (f : Nat → Nat) : upTo f 0 = fun _ => 0 := by funext j; unfold upTo; rw [if_neg (by omega)]
/-- What Fixed leaves. -/
def FixM (w : World) (e : Ending) (w' : World) : Prop :=
  ∃ p q, e = .returned (.tuple #[.slice (some ⟨p, 0, none⟩) 288 288, .slice (some ⟨q, 0, none⟩) 30 30]) ∧ Row w' p (ia fixL 288) 3 ∧ Row w' q (ia (fun _ => 5) 30) 3 ∧ Below w.heap.size w w' ∧ w.heap.size ≤ p ∧ w.heap.size ≤ q ∧ p ≠ q

set_option maxHeartbeats 1000000 in
set_option maxRecDepth 10000 in
theorem fixed_any (w : World) : Calls Try.prog 43 #[] w (FixM w) := by
  go_enter Try.func43, Try.ntmps43
  go_wp2_with (with_reducible refine makeI _ rfl _ _ rfl 288 rfl rfl (by omega) ?_)
  intro w1 r1 g1 s1
  have hb := below_make g1
  have hrow : Row w1 w.heap.size (ia (upTo fixL 0) 288) 3 := by rw [upTo_zero]; exact r1
  have HI := Lib.hid (And.intro hrow (And.intro hb s1))
  clear r1 g1 s1 hb hrow
  generalize hG : w.heap.size = G at HI ⊢
  have HG := Lib.hid hG
  clear hG
  go_wp2_with fail
  go_loopw [7] (fun i wr => ∃ k : Nat, k ≤ 288 ∧ i = .int .i64 (k : Int) ∧ Row wr G (ia (upTo fixL k) 288) 3 ∧ Below G w wr ∧ wr.heap.size = G + 1) (fun i _ => 288 - (intOf i).toNat)
  case atStart => exact ⟨0, by omega, rfl, HI.out⟩
  case round =>
    clear HI
    obtain ⟨k, hk, rfl, hrow, hb, hsz⟩ := hrel
    have HI := Lib.hid (And.intro hrow (And.intro hb hsz))
    clear hrow hb hsz
    by_cases hk2 : k < 288
    · have hd : decide ((k : Int) < 288) = true := decide_eq_true (by omega)
      have c1 := HI.out.1.ia hk2
      have c2 := HI.out.1.thawed k
      generalize upTo fixL k k = y at c1
      have HM := Lib.hid (upTo_more fixL k)
      go_wp2_with fail
      refine (fixed_len k wr).mono ?_
      rintro e w2 ⟨rfl, rfl⟩
      generalize fixL k = z at HM ⊢
      go_wp2_with fail
      go_roundw
      case rel => exact ⟨k + 1, by omega, by simp, by rw [HM.out]; exact HI.out.1.iaSet k z _ rfl, HI.out.2.1.grown (grown_setCell _ _ _ _) (by have := HI.out.2.2; omega) (fun j h => by injection h with h; omega), by have := HI.out.2.2; simpa [World.setCell] using this⟩
      case measure => simp [intOf]; omega
    · obtain rfl : k = 288 := by omega
      have hd : decide (((288 : Nat) : Int) < 288) = false := rfl
      have hall := HI.out.1
      rw [upTo_all] at hall
      have HR := Lib.hid hall
      clear hall
      go_wp2_with (with_reducible refine makeI _ rfl _ _ rfl 30 rfl rfl (by omega) ?_)
      intro w1 r1 g1 s1
      have hb : Below G w w1 := HI.out.2.1.grown g1 (by have := HI.out.2.2; omega) (fun _ h => by cases h)
      have hrow : Row w1 (G + 1) (ia (upTo (fun _ => 5) 0) 30) 3 := by rw [upTo_zero, ← HI.out.2.2]; exact r1
      have HJ := Lib.hid (And.intro hrow (And.intro hb (And.intro (HR.out.grown g1 (by simp)) (show G + 2 ≤ w1.heap.size by have := HI.out.2.2; omega))))
      have hsz := HI.out.2.2
      rw [hsz]
      clear r1 g1 s1 hb hrow HR HI hsz
      go_wp2_with fail
      go_loopw [19] (fun i wr => ∃ k : Nat, k ≤ 30 ∧ i = .int .i64 (k : Int) ∧ Row wr (G + 1) (ia (upTo (fun _ => 5) k) 30) 3 ∧ Below G w wr ∧ Row wr G (ia fixL 288) 3 ∧ G + 2 ≤ wr.heap.size) (fun i _ => 30 - (intOf i).toNat)
      case atStart => exact ⟨0, by omega, rfl, HJ.out⟩
      case round =>
        clear HJ
        obtain ⟨k, hk, rfl, hrow, hb, hr, hsz⟩ := hrel
        have HI := Lib.hid (And.intro hrow (And.intro hb (And.intro hr hsz)))
        clear hrow hb hr hsz
        by_cases hk2 : k < 30
        · have hd : decide ((k : Int) < 30) = true := decide_eq_true (by omega)
          have c1 := HI.out.1.ia hk2
          have c2 := HI.out.1.thawed k
          generalize upTo (fun _ => 5) k k = y at c1
          have HM := Lib.hid (upTo_more (fun _ => 5) k)
          go_wp2_with fail
          go_roundw
          case rel => exact ⟨k + 1, by omega, by simp, by rw [HM.out]; exact HI.out.1.iaSet k 5 _ rfl, HI.out.2.1.grown (grown_setCell _ _ _ _) (by have := HI.out.2.2.2; omega) (fun j h => by injection h with h; omega), HI.out.2.2.1.other (by omega) _ _, by have := HI.out.2.2.2; simpa [World.setCell] using this⟩
          case measure => simp [intOf]; omega
        · obtain rfl : k = 30 := by omega
          have hd : decide (((30 : Nat) : Int) < 30) = false := rfl
          have hall := HI.out.1
          rw [upTo_all] at hall
          have HR := Lib.hid hall
          clear hall
          go_wp2_with fail
          go_ret2
          exact ⟨G, G + 1, rfl, HI.out.2.2.1, HR.out, by rw [HG.out]; exact HI.out.2.1, by rw [HG.out]; exact Nat.le_refl _, by rw [HG.out]; exact Nat.le_succ _, by omega⟩
end Go.Proofs.Ytnadnokjhinmcaa
