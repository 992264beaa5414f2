
/- Contracts of a Reader's Bits, Peek, Align and Bytes. -/
import Derived.Test.YtjipjclbhdgkoaaDoorRdr
namespace Go.Proofs.YtjipjclbhdgkoaaDoor
open Go.RowKit

/-- How many bits 0 make whole bytes. -/
def gapR (p : Nat) : Nat := (8 - p % 8) % 8

set_option maxHeartbeats 400000 in
theorem rbits_any {S : List Nat} {A : Option Addr} {n c : Nat} {l : List UInt8} {p : Nat} (g : Nat) (k : Int) (w : World) (hR : RA w S g A n c l p) (hS : g ∈ S) (hn : n ≤ 1000000) :
    Calls Tryd.prog 36 #[.pointer (some ⟨g, 0, none⟩), .int .i64 k] w fun e w' => e = .returned (.tuple #[.int .u32 (bX (numL l) n p k : Int), errV (bE n p k)]) ∧ RA w' S g A n c l (bP n p k) ∧ w.grownBy w' (some g) := by
  have HR := Lib.hid hR
  have HS := Lib.hid hS
  clear hR hS
  by_cases h1 : k < 0 ∨ 32 < k
  · have hx : bX (numL l) n p k = 0 := by unfold bX; rw [b_out h1]; rfl
    have hp : bP n p k = p := by unfold bP; rw [b_out h1]; rfl
    rw [hx, hp, b_out h1]
    clear hx hp
    rcases h1 with h | h
    · have h1 : decide (k < 0) = true := decide_eq_true h
      go_enter Tryd.func36, Tryd.ntmps36
      go_wp2_with fail
      go_ret2
      exact ⟨rfl, HR.out, World.grownBy.refl _ _⟩
    · have h1 : decide (k < 0) = false := decide_eq_false (by omega)
      have h2 : decide (32 < k) = true := decide_eq_true h
      go_enter Tryd.func36, Tryd.ntmps36
      go_wp2_with fail
      go_ret2
      exact ⟨rfl, HR.out, World.grownBy.refl _ _⟩
  · obtain ⟨q, rfl⟩ : ∃ q : Nat, k = (q : Int) := ⟨k.toNat, by omega⟩
    have h3 : decide ((q : Int) < 0) = false := decide_eq_false (by omega)
    have h4 : decide (32 < (q : Int)) = false := decide_eq_false (by omega)
    by_cases h2 : 8 * n < p + ((q : Nat) : Int).toNat
    · have hx : bX (numL l) n p q = 0 := by unfold bX; rw [b_end h1 h2]; rfl
      have hp : bP n p q = p := by unfold bP; rw [b_end h1 h2]; rfl
      rw [hx, hp, b_end h1 h2]
      simp only [Int.toNat_natCast] at h2
      have hd : decide (((8 * n - p : Nat) : Int) < (q : Int)) = true := decide_eq_true (by have := HR.out.le; omega)
      clear hx hp h1
      go_enter Tryd.func36, Tryd.ntmps36
      go_wp2_with fail
      refine (left_any g w HR.out hn).mono ?_
      rintro e w1 ⟨rfl, m, rfl⟩
      generalize ((8 * n - p : Nat) : Int) = z at hd ⊢
      have HD := Lib.hid (And.intro (HR.out.drewN m) (grown_drewN w m))
      generalize w.drewN m = w1 at HD ⊢
      go_wp2_with fail
      go_ret2
      exact ⟨rfl, HD.out.1, ⟨HD.out.2.os, HD.out.2.tape, HD.out.2.output, HD.out.2.size, fun k hk _ => HD.out.2.block k hk (by simp)⟩⟩
    · have hx : bX (numL l) n p q = fld (numL l) p q := by unfold bX; rw [b_ok h1 h2]; rfl
      have hp : bP n p q = p + q := by unfold bP; rw [b_ok h1 h2]; rfl
      obtain ⟨x, HX⟩ : ∃ x, RowKit.Hid (fld (numL l) p q = x) := ⟨_, Lib.hid rfl⟩
      rw [hx, hp, b_ok h1 h2, HX.out]
      simp only [Int.toNat_natCast] at h2
      have hd : decide (((8 * n - p : Nat) : Int) < (q : Int)) = false := decide_eq_false (by have := HR.out.le; omega)
      have hpb : p ≤ 8000000 := by have := HR.out.le; omega
      have hq : q ≤ 32 := by omega
      clear hx hp h1
      go_enter Tryd.func36, Tryd.ntmps36
      go_wp2_with fail
      refine (left_any g w HR.out hn).mono ?_
      rintro e w1 ⟨rfl, m, rfl⟩
      generalize ((8 * n - p : Nat) : Int) = z at hd ⊢
      have HD := Lib.hid (And.intro (HR.out.drewN m) (grown_drewN w m))
      generalize w.drewN m = w1 at HD ⊢
      go_wp2_with fail
      refine (ahead_any g q w1 HD.out.1 hn hq (by omega)).mono ?_
      rintro e w2 ⟨rfl, m2, rfl⟩
      rw [HX.out]
      have HD2 := Lib.hid (And.intro (HD.out.1.drewN m2) (HD.out.2.trans (grown_drewN w1 m2)))
      generalize w1.drewN m2 = w2 at HD2 ⊢
      clear HD
      have hc1 := HD2.out.1.cell1
      have hf1 := HD2.out.1.row.thawed 1
      have HD3 := Lib.hid (And.intro (HD2.out.1.set1 HS.out (p + q) (by omega) ((p : Int) + (q : Int)) (by omega)) (grown_setCell w2 g 1 (.int .i64 ((p : Int) + (q : Int)))))
      go_wp2_with fail
      go_ret2
      exact ⟨rfl, HD3.out.1, ⟨HD2.out.2.os, HD2.out.2.tape, HD2.out.2.output, Nat.le_trans HD2.out.2.size HD3.out.2.size, fun k hk hne => (HD3.out.2.block k (Nat.lt_of_lt_of_le hk HD2.out.2.size) hne).trans (HD2.out.2.block k hk (by simp))⟩⟩

theorem fld_zero (N p : Nat) : fld N p 0 = 0 := by unfold fld; simp [Nat.mod_one]

set_option maxHeartbeats 400000 in
theorem rpeek_any {S : List Nat} {A : Option Addr} {n c : Nat} {l : List UInt8} {p : Nat} (g : Nat) (k : Int) (w : World) (hR : RA w S g A n c l p) (hn : n ≤ 1000000) :
    Calls Tryd.prog 65 #[.pointer (some ⟨g, 0, none⟩), .int .i64 k] w fun e w' => e = .returned (.tuple #[.int .u32 (fld (numL l) p (pN n p k) : Int), .int .i64 (pN n p k : Int)]) ∧ ∃ m, w' = w.drewN m := by
  have HR := Lib.hid hR
  clear hR
  by_cases h1 : k < 0 ∨ 32 < k
  · have hp : pN n p k = 0 := by unfold pN; rw [if_pos h1]
    rw [hp, fld_zero]
    clear hp
    rcases h1 with h | h
    · have h1 : decide (k < 0) = true := decide_eq_true h
      go_enter Tryd.func65, Tryd.ntmps65
      go_wp2_with fail
      go_ret2
      exact ⟨rfl, 0, rfl⟩
    · have h1 : decide (k < 0) = false := decide_eq_false (by omega)
      have h2 : decide (32 < k) = true := decide_eq_true h
      go_enter Tryd.func65, Tryd.ntmps65
      go_wp2_with fail
      go_ret2
      exact ⟨rfl, 0, rfl⟩
  · obtain ⟨q, rfl⟩ : ∃ q : Nat, k = (q : Int) := ⟨k.toNat, by omega⟩
    have h3 : decide ((q : Int) < 0) = false := decide_eq_false (by omega)
    have h4 : decide (32 < (q : Int)) = false := decide_eq_false (by omega)
    have hp : pN n p q = min q (8 * n - p) := by unfold pN; rw [if_neg h1]; rfl
    obtain ⟨z, hz⟩ : ∃ z, 8 * n - p = z := ⟨_, rfl⟩
    have hzp : p + z ≤ 8 * n := by have := HR.out.le; omega
    rw [hp, hz]
    have HZ := Lib.hid hz
    have hq : q ≤ 32 := by omega
    have hzb : z ≤ 8000000 := by omega
    clear hp h1 hz
    by_cases hqz : q ≤ z
    · obtain ⟨x, HX⟩ : ∃ x, RowKit.Hid (fld (numL l) p q = x) := ⟨_, Lib.hid rfl⟩
      rw [Nat.min_eq_left hqz, HX.out]
      go_enter Tryd.func65, Tryd.ntmps65
      go_wp2_with fail
      refine (left_any g w HR.out hn).mono ?_
      rintro e w1 ⟨rfl, m, rfl⟩
      rw [HZ.out]
      have HD := Lib.hid (HR.out.drewN m)
      go_wp2_with fail
      refine (ahead_any g q _ HD.out hn hq (by omega)).mono ?_
      rintro e w2 ⟨rfl, m2, rfl⟩
      rw [HX.out]
      go_wp2_with fail
      go_ret2
      exact ⟨rfl, m + m2, rfl⟩
    · obtain ⟨x, HX⟩ : ∃ x, RowKit.Hid (fld (numL l) p z = x) := ⟨_, Lib.hid rfl⟩
      rw [Nat.min_eq_right (by omega), HX.out]
      go_enter Tryd.func65, Tryd.ntmps65
      go_wp2_with fail
      refine (left_any g w HR.out hn).mono ?_
      rintro e w1 ⟨rfl, m, rfl⟩
      rw [HZ.out]
      have HD := Lib.hid (HR.out.drewN m)
      go_wp2_with fail
      refine (ahead_any g z _ HD.out hn (by omega) (by omega)).mono ?_
      rintro e w2 ⟨rfl, m2, rfl⟩
      rw [HX.out]
      go_wp2_with fail
      go_ret2
      exact ⟨rfl, m + m2, rfl⟩

theorem y_out {T p : Nat} {n : Int} (h : n < 0) : yE T p n = 1 := by unfold yE; rw [if_pos h]
theorem y_form {T p : Nat} {n : Int} (h : ¬ n < 0) (h2 : p % 8 ≠ 0) : yE T p n = 2 := by unfold yE; rw [if_neg h, if_pos h2]
theorem y_end {T p : Nat} {n : Int} (h : ¬ n < 0) (h2 : ¬ p % 8 ≠ 0) (h3 : (8 * T - p) / 8 < n.toNat) : yE T p n = 10 := by unfold yE; rw [if_neg h, if_neg h2, if_pos h3]
theorem y_ok {T p : Nat} {n : Int} (h : ¬ n < 0) (h2 : ¬ p % 8 ≠ 0) (h3 : ¬ (8 * T - p) / 8 < n.toNat) : yE T p n = 0 := by unfold yE; rw [if_neg h, if_neg h2, if_neg h3]
theorem yB_no {l : List UInt8} {p : Nat} {n : Int} (h : yE l.length p n ≠ 0) : yB l p n = [] := by unfold yB; rw [if_neg h]
theorem yP_no {T p : Nat} {n : Int} (h : yE T p n ≠ 0) : yP T p n = p := by unfold yP; rw [if_neg h]
theorem grown_any {w w' : World} (h : w.grownBy w' none) (r : Option Nat) : w.grownBy w' r := ⟨h.os, h.tape, h.output, h.size, fun k hk _ => h.block k hk (by simp)⟩

theorem own_mono {w : World} {B B' : Nat} {v : Value} {l : List UInt8} (h : Own w B v l) (hb : B' ≤ B) : Own w B' v l := by
  refine ⟨h.1, ?_⟩
  rcases h.2 with h1 | ⟨g, cap, cur, h1, h2, h3⟩
  · exact .inl h1
  · exact .inr ⟨g, cap, cur, h1, by omega, h3⟩

end Go.Proofs.YtjipjclbhdgkoaaDoor
