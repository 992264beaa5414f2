/- Which tokens are a text's, as plain functions; contracts of isFormed and refusal. -/
import Derived.Test.YtnadnokjhinmcaaAlv
namespace Go.Proofs.Ytnadnokjhinmcaa
open Go.RowKit

def formed (t : Tk) : Bool := if t.l = 0 then decide (t.d = 0) else decide (3 ≤ t.l ∧ t.l ≤ 258 ∧ t.d ≠ 0 ∧ t.b = 0)
/-- Why a token can't stand behind n bytes: an error's number. -/
def refuse (t : Tk) (n : Nat) : Nat :=
  if formed t = false then 2 else if 0 < t.l ∧ (t.d < 1 ∨ 32768 < t.d ∨ (n : Int) < t.d) then 1 else if 1048576 < (n : Int) + szI t.l then 3 else 0
/-- k bytes from so far back. -/
def copyN (d : Nat) : Nat → List UInt8 → List UInt8
  | 0, o => o
  | k + 1, o => copyN d k (o ++ [o.getD (o.length - d) 0])
def putT (t : Tk) (o : List UInt8) : List UInt8 := if t.l = 0 then o ++ [t.b] else copyN t.d.toNat t.l.toNat o
def untokF : List Tk → List UInt8 → Except Nat (List UInt8)
  | [], o => .ok o
  | t :: r, o => if refuse t o.length = 0 then untokF r (putT t o) else .error (refuse t o.length)
theorem copyN_length (d : Nat) : ∀ k o, (copyN d k o).length = o.length + k
  | 0, o => by simp [copyN]
  | k + 1, o => by rw [copyN, copyN_length d k]; simp; omega
theorem b_zero (b : UInt8) : (((b.toNat : Int) == 0) = decide (b = 0)) := by
  by_cases h : b = 0
  · subst h; rfl
  · rw [decide_eq_false h, beq_eq_false_iff_ne]
    intro e
    exact h (UInt8.toNat_inj.1 (by rw [show (0 : UInt8).toNat = 0 from rfl]; omega))
set_option maxHeartbeats 1000000 in
set_option maxRecDepth 10000 in
theorem isFormed_any (t : Tk) (w : World) : Calls Try.prog 28 #[tokV t] w fun e w' => e = .returned (.bool (formed t)) ∧ Below w.heap.size w w' := by
  have hb := b_zero t.b
  have HBL : ∀ cs, Below w.heap.size w (w.alloc (.cells cs 45)) := fun cs => (Below.refl _ _).alloc (Nat.le_refl _) _
  go_enter Try.func28, Try.ntmps28
  by_cases h0 : t.l = 0
  · have d0 : (t.l == 0) = true := by rw [h0]; rfl
    go_wp2_with fail
    go_ret
    refine ⟨?_, HBL _⟩
    unfold formed
    rw [if_pos h0, ← show (t.d == 0) = decide (t.d = 0) by rw [Bool.eq_iff_iff]; simp]
    rfl
  · have d0 : (t.l == 0) = false := by rw [beq_eq_false_iff_ne]; exact h0
    by_cases h1 : 3 ≤ t.l
    · have d1 : decide (3 ≤ t.l) = true := decide_eq_true h1
      by_cases h2 : t.l ≤ 258
      · have d2 : decide (t.l ≤ 258) = true := decide_eq_true h2
        by_cases h3 : t.d = 0
        · have d3 : (t.d != 0) = false := by rw [h3]; rfl
          go_wp2_with fail
          go_ret
          exact ⟨by unfold formed; rw [if_neg h0, decide_eq_false (by simp [h3])]; rfl, HBL _⟩
        · have d3 : (t.d != 0) = true := by rw [bne_iff_ne]; exact h3
          have hf : formed t = decide (t.b = 0) := by unfold formed; rw [if_neg h0]; simp [h1, h2, h3]
          go_wp2_with fail
          go_ret
          refine ⟨?_, HBL _⟩
          rw [hf, ← hb]; rfl
      · have d2 : decide (t.l ≤ 258) = false := decide_eq_false h2
        go_wp2_with fail
        go_ret
        exact ⟨by unfold formed; rw [if_neg h0, decide_eq_false (by omega)]; rfl, HBL _⟩
    · have d1 : decide (3 ≤ t.l) = false := decide_eq_false h1
      go_wp2_with fail
      go_ret
      exact ⟨by unfold formed; rw [if_neg h0, decide_eq_false (by omega)]; rfl, HBL _⟩

theorem isForm_false {t : Tk} (h : formed t = true) : t.l = 0 ∨ (3 ≤ t.l ∧ t.l ≤ 258) := by
  unfold formed at h
  split at h
  · exact .inl (by assumption)
  · have := of_decide_eq_true h
    exact .inr ⟨this.1, this.2.1⟩
set_option maxHeartbeats 2000000 in
set_option maxRecDepth 10000 in
theorem refusal_any (t : Tk) (n : Nat) (hn : n ≤ 1048576) (w : World) : Calls Try.prog 20 #[tokV t, .int .i64 (n : Int)] w fun e w' => e = .returned (errV (refuse t n)) ∧ Below w.heap.size w w' := by
  obtain ⟨R, HR⟩ : ∃ R, RowKit.Hid (refuse t n = R) := ⟨_, Lib.hid rfl⟩
  rw [HR.out]
  have HBL : ∀ cs, Below w.heap.size w (w.alloc (.cells cs 45)) := fun cs => (Below.refl _ _).alloc (Nat.le_refl _) _
  have hsz : ∀ cs : Array Value, (w.alloc (.cells cs 45)).heap.size = w.heap.size + 1 := fun cs => by simp
  go_enter Try.func20, Try.ntmps20
  go_wp2_with fail
  refine (isFormed_any t _).mono ?_
  rintro e w1 ⟨rfl, hb1⟩
  have hrow : Row w1 w.heap.size #[U8 t.b, .int .i64 t.l, .int .i64 t.d] 45 := Row.below (heap_alloc_new w (.cells #[U8 t.b, .int .i64 t.l, .int .i64 t.d] 45)) hb1 (by simp)
  have HB1 := Lib.hid ((HBL _).trans (hb1.mono (by simp)))
  have c0 : w1.cell? ⟨w.heap.size, 0, none⟩ = some (.int .u8 (t.b.toNat : Int)) := hrow.cell 0
  have c1 : w1.cell? ⟨w.heap.size, 1, none⟩ = some (.int .i64 t.l) := hrow.cell 1
  have c2 : w1.cell? ⟨w.heap.size, 2, none⟩ = some (.int .i64 t.d) := hrow.cell 2
  clear hb1 hrow HBL hsz
  cases hf : formed t with
  | false =>
    have HR2 : RowKit.Hid (R = 2) := Lib.hid (by rw [← HR.out]; unfold refuse; rw [if_pos hf])
    go_wp2_with fail
    go_ret
    exact ⟨by rw [HR2.out]; rfl, HB1.out⟩
  | true =>
    have hfl := isForm_false hf
    by_cases hr : 0 < t.l ∧ (t.d < 1 ∨ 32768 < t.d ∨ (n : Int) < t.d)
    · have HR2 : RowKit.Hid (R = 1) := Lib.hid (by rw [← HR.out]; unfold refuse; rw [if_neg (by rw [hf]; decide), if_pos hr])
      have d1 : decide (0 < t.l) = true := decide_eq_true hr.1
      by_cases h1 : t.d < 1
      · have d2 : decide (t.d < 1) = true := decide_eq_true h1
        go_wp2_with fail
        go_ret
        exact ⟨by rw [HR2.out]; rfl, HB1.out⟩
      · have d2 : decide (t.d < 1) = false := decide_eq_false h1
        by_cases h2 : (n : Int) < 32768
        · have d3 : decide ((n : Int) < t.d) = true := decide_eq_true (by omega)
          clear hr hfl h1 hf
          go_wp2_with fail
          go_ret
          exact ⟨by rw [HR2.out]; rfl, HB1.out⟩
        · have d3 : decide (32768 < t.d) = true := decide_eq_true (by omega)
          clear hr hfl h1 hf
          go_wp2_with fail
          go_ret
          exact ⟨by rw [HR2.out]; rfl, HB1.out⟩
    · have hR0 : refuse t n = if 1048576 < (n : Int) + szI t.l then 3 else 0 := by unfold refuse; rw [if_neg (by rw [hf]; decide), if_neg hr]
      have HZA := Lib.hid (fun w => size_any t w)
      obtain ⟨z, hz⟩ : ∃ z, szI t.l = z := ⟨_, rfl⟩
      have hz2 : 1 ≤ z ∧ z ≤ 258 := by rw [← hz]; unfold szI; split <;> omega
      rw [hz] at HZA hR0
      rw [hR0] at HR
      clear hR0 hz hf
      by_cases h0 : 0 < t.l
      · have d1 : decide (0 < t.l) = true := decide_eq_true h0
        have d2 : decide (t.d < 1) = false := decide_eq_false (by omega)
        have d3 : decide (32768 < t.d) = false := decide_eq_false (by omega)
        have d4 : decide ((n : Int) < t.d) = false := decide_eq_false (by omega)
        by_cases h2 : (n : Int) < 32768
        · by_cases h4 : 1048576 < (n : Int) + z
          · have HR2 : RowKit.Hid (R = 3) := Lib.hid (by rw [← HR.out, if_pos h4])
            have d5 : decide (1048576 - (n : Int) < z) = true := decide_eq_true (by omega)
            clear hr HR hfl hz2
            go_wp2_with fail
            all_goals
              refine (HZA.out w1).mono ?_
              rintro e w5 ⟨rfl, hb5⟩
              have HB5 := Lib.hid (HB1.out.trans (hb5.mono HB1.out.size))
              clear hb5
              go_wp2_with fail
              go_ret
              exact ⟨by rw [HR2.out]; rfl, HB5.out⟩
          · have HR2 : RowKit.Hid (R = 0) := Lib.hid (by rw [← HR.out, if_neg h4])
            have d5 : decide (1048576 - (n : Int) < z) = false := decide_eq_false (by omega)
            clear hr HR hfl hz2
            go_wp2_with fail
            all_goals
              refine (HZA.out w1).mono ?_
              rintro e w5 ⟨rfl, hb5⟩
              have HB5 := Lib.hid (HB1.out.trans (hb5.mono HB1.out.size))
              clear hb5
              go_wp2_with fail
              go_ret
              exact ⟨by rw [HR2.out]; rfl, HB5.out⟩
        · by_cases h4 : 1048576 < (n : Int) + z
          · have HR2 : RowKit.Hid (R = 3) := Lib.hid (by rw [← HR.out, if_pos h4])
            have d5 : decide (1048576 - (n : Int) < z) = true := decide_eq_true (by omega)
            clear hr HR hfl hz2
            go_wp2_with fail
            all_goals
              refine (HZA.out w1).mono ?_
              rintro e w5 ⟨rfl, hb5⟩
              have HB5 := Lib.hid (HB1.out.trans (hb5.mono HB1.out.size))
              clear hb5
              go_wp2_with fail
              go_ret
              exact ⟨by rw [HR2.out]; rfl, HB5.out⟩
          · have HR2 : RowKit.Hid (R = 0) := Lib.hid (by rw [← HR.out, if_neg h4])
            have d5 : decide (1048576 - (n : Int) < z) = false := decide_eq_false (by omega)
            clear hr HR hfl hz2
            go_wp2_with fail
            all_goals
              refine (HZA.out w1).mono ?_
              rintro e w5 ⟨rfl, hb5⟩
              have HB5 := Lib.hid (HB1.out.trans (hb5.mono HB1.out.size))
              clear hb5
              go_wp2_with fail
              go_ret
              exact ⟨by rw [HR2.out]; rfl, HB5.out⟩
      · have d1 : decide (0 < t.l) = false := decide_eq_false h0
        by_cases h4 : 1048576 < (n : Int) + z
        · have HR2 : RowKit.Hid (R = 3) := Lib.hid (by rw [← HR.out, if_pos h4])
          have d5 : decide (1048576 - (n : Int) < z) = true := decide_eq_true (by omega)
          clear hr HR hfl hz2
          go_wp2_with fail
          all_goals
            refine (HZA.out w1).mono ?_
            rintro e w5 ⟨rfl, hb5⟩
            have HB5 := Lib.hid (HB1.out.trans (hb5.mono HB1.out.size))
            clear hb5
            go_wp2_with fail
            go_ret
            exact ⟨by rw [HR2.out]; rfl, HB5.out⟩
        · have HR2 : RowKit.Hid (R = 0) := Lib.hid (by rw [← HR.out, if_neg h4])
          have d5 : decide (1048576 - (n : Int) < z) = false := decide_eq_false (by omega)
          clear hr HR hfl hz2
          go_wp2_with fail
          all_goals
            refine (HZA.out w1).mono ?_
            rintro e w5 ⟨rfl, hb5⟩
            have HB5 := Lib.hid (HB1.out.trans (hb5.mono HB1.out.size))
            clear hb5
            go_wp2_with fail
            go_ret
            exact ⟨by rw [HR2.out]; rfl, HB5.out⟩
end Go.Proofs.Ytnadnokjhinmcaa
