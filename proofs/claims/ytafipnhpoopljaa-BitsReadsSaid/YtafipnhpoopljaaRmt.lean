/- Contracts of a Reader's Bits, Peek, Align and Bytes. -/
import Derived.Test.YtafipnhpoopljaaRdr
namespace Go.Proofs.Ytafipnhpoopljaa
open Go.RowKit

/-- How many bits 0 make whole bytes. -/
def gapR (p : Nat) : Nat := (8 - p % 8) % 8

set_option maxHeartbeats 400000 in
theorem rbits_any {S : List Nat} {A : Option Addr} {n c : Nat} {l : List UInt8} {p : Nat} (g : Nat) (k : Int) (w : World) (hR : RA w S g A n c l p) (hS : g ∈ S) (hn : n ≤ 1000000) :
    Calls Try.prog 11 #[.pointer (some ⟨g, 0, none⟩), .int .i64 k] w fun e w' => e = .returned (.tuple #[.int .u32 (bX (numL l) n p k : Int), errV (bE n p k)]) ∧ RA w' S g A n c l (bP n p k) ∧ w.grownBy w' (some g) := by
  have HR := Lib.hid hR
  have HS := Lib.hid hS
  clear hR hS
  by_cases h1 : k < 0 ∨ 32 < k
  · have hx : bX (numL l) n p k = 0 := by unfold bX; rw [b_out h1]; rfl
    have hp : bP n p k = p := by unfold bP; rw [b_out h1]; rfl
    rw [hx, hp, b_out h1]
    clear hx hp
    rcases h1 with h | h
    · have h1 : decide (k < 0) = true := decide_eq_true h
      go_enter Try.func11, Try.ntmps11
      go_wp2_with fail
      go_ret2
      exact ⟨rfl, HR.out, World.grownBy.refl _ _⟩
    · have h1 : decide (k < 0) = false := decide_eq_false (by omega)
      have h2 : decide (32 < k) = true := decide_eq_true h
      go_enter Try.func11, Try.ntmps11
      go_wp2_with fail
      go_ret2
      exact ⟨rfl, HR.out, World.grownBy.refl _ _⟩
  · obtain ⟨q, rfl⟩ : ∃ q : Nat, k = (q : Int) := ⟨k.toNat, by omega⟩
    have h3 : decide ((q : Int) < 0) = false := decide_eq_false (by omega)
    have h4 : decide (32 < (q : Int)) = false := decide_eq_false (by omega)
    by_cases h2 : 8 * n < p + ((q : Nat) : Int).toNat
    · have hx : bX (numL l) n p q = 0 := by unfold bX; rw [b_end h1 h2]; rfl
      have hp : bP n p q = p := by unfold bP; rw [b_end h1 h2]; rfl
      rw [hx, hp, b_end h1 h2]
      simp only [Int.toNat_natCast] at h2
      have hd : decide (((8 * n - p : Nat) : Int) < (q : Int)) = true := decide_eq_true (by have := HR.out.le; omega)
      clear hx hp h1
      go_enter Try.func11, Try.ntmps11
      go_wp2_with fail
      refine (left_any g w HR.out hn).mono ?_
      rintro e w1 ⟨rfl, m, rfl⟩
      generalize ((8 * n - p : Nat) : Int) = z at hd ⊢
      have HD := Lib.hid (And.intro (HR.out.drewN m) (grown_drewN w m))
      generalize w.drewN m = w1 at HD ⊢
      go_wp2_with fail
      go_ret2
      exact ⟨rfl, HD.out.1, ⟨HD.out.2.os, HD.out.2.tape, HD.out.2.output, HD.out.2.size, fun k hk _ => HD.out.2.block k hk (by simp)⟩⟩
    · have hx : bX (numL l) n p q = fld (numL l) p q := by unfold bX; rw [b_ok h1 h2]; rfl
      have hp : bP n p q = p + q := by unfold bP; rw [b_ok h1 h2]; rfl
      obtain ⟨x, HX⟩ : ∃ x, RowKit.Hid (fld (numL l) p q = x) := ⟨_, Lib.hid rfl⟩
      rw [hx, hp, b_ok h1 h2, HX.out]
      simp only [Int.toNat_natCast] at h2
      have hd : decide (((8 * n - p : Nat) : Int) < (q : Int)) = false := decide_eq_false (by have := HR.out.le; omega)
      have hpb : p ≤ 8000000 := by have := HR.out.le; omega
      have hq : q ≤ 32 := by omega
      clear hx hp h1
      go_enter Try.func11, Try.ntmps11
      go_wp2_with fail
      refine (left_any g w HR.out hn).mono ?_
      rintro e w1 ⟨rfl, m, rfl⟩
      generalize ((8 * n - p : Nat) : Int) = z at hd ⊢
      have HD := Lib.hid (And.intro (HR.out.drewN m) (grown_drewN w m))
      generalize w.drewN m = w1 at HD ⊢
      go_wp2_with fail
      refine (ahead_any g q w1 HD.out.1 hn hq (by omega)).mono ?_
      rintro e w2 ⟨rfl, m2, rfl⟩
      rw [HX.out]
      have HD2 := Lib.hid (And.intro (HD.out.1.drewN m2) (HD.out.2.trans (grown_drewN w1 m2)))
      generalize w1.drewN m2 = w2 at HD2 ⊢
      clear HD
      have hc1 := HD2.out.1.cell1
      have hf1 := HD2.out.1.row.thawed 1
      have HD3 := Lib.hid (And.intro (HD2.out.1.set1 HS.out (p + q) (by omega) ((p : Int) + (q : Int)) (by omega)) (grown_setCell w2 g 1 (.int .i64 ((p : Int) + (q : Int)))))
      go_wp2_with fail
      go_ret2
      exact ⟨rfl, HD3.out.1, ⟨HD2.out.2.os, HD2.out.2.tape, HD2.out.2.output, Nat.le_trans HD2.out.2.size HD3.out.2.size, fun k hk hne => (HD3.out.2.block k (Nat.lt_of_lt_of_le hk HD2.out.2.size) hne).trans (HD2.out.2.block k hk (by simp))⟩⟩

theorem fld_zero (N p : Nat) : fld N p 0 = 0 := by unfold fld; simp [Nat.mod_one]

set_option maxHeartbeats 400000 in
theorem rpeek_any {S : List Nat} {A : Option Addr} {n c : Nat} {l : List UInt8} {p : Nat} (g : Nat) (k : Int) (w : World) (hR : RA w S g A n c l p) (hn : n ≤ 1000000) :
    Calls Try.prog 14 #[.pointer (some ⟨g, 0, none⟩), .int .i64 k] w fun e w' => e = .returned (.tuple #[.int .u32 (fld (numL l) p (pN n p k) : Int), .int .i64 (pN n p k : Int)]) ∧ ∃ m, w' = w.drewN m := by
  have HR := Lib.hid hR
  clear hR
  by_cases h1 : k < 0 ∨ 32 < k
  · have hp : pN n p k = 0 := by unfold pN; rw [if_pos h1]
    rw [hp, fld_zero]
    clear hp
    rcases h1 with h | h
    · have h1 : decide (k < 0) = true := decide_eq_true h
      go_enter Try.func14, Try.ntmps14
      go_wp2_with fail
      go_ret2
      exact ⟨rfl, 0, rfl⟩
    · have h1 : decide (k < 0) = false := decide_eq_false (by omega)
      have h2 : decide (32 < k) = true := decide_eq_true h
      go_enter Try.func14, Try.ntmps14
      go_wp2_with fail
      go_ret2
      exact ⟨rfl, 0, rfl⟩
  · obtain ⟨q, rfl⟩ : ∃ q : Nat, k = (q : Int) := ⟨k.toNat, by omega⟩
    have h3 : decide ((q : Int) < 0) = false := decide_eq_false (by omega)
    have h4 : decide (32 < (q : Int)) = false := decide_eq_false (by omega)
    have hp : pN n p q = min q (8 * n - p) := by unfold pN; rw [if_neg h1]; rfl
    obtain ⟨z, hz⟩ : ∃ z, 8 * n - p = z := ⟨_, rfl⟩
    have hzp : p + z ≤ 8 * n := by have := HR.out.le; omega
    rw [hp, hz]
    have HZ := Lib.hid hz
    have hq : q ≤ 32 := by omega
    have hzb : z ≤ 8000000 := by omega
    clear hp h1 hz
    by_cases hqz : q ≤ z
    · obtain ⟨x, HX⟩ : ∃ x, RowKit.Hid (fld (numL l) p q = x) := ⟨_, Lib.hid rfl⟩
      rw [Nat.min_eq_left hqz, HX.out]
      go_enter Try.func14, Try.ntmps14
      go_wp2_with fail
      refine (left_any g w HR.out hn).mono ?_
      rintro e w1 ⟨rfl, m, rfl⟩
      rw [HZ.out]
      have HD := Lib.hid (HR.out.drewN m)
      go_wp2_with fail
      refine (ahead_any g q _ HD.out hn hq (by omega)).mono ?_
      rintro e w2 ⟨rfl, m2, rfl⟩
      rw [HX.out]
      go_wp2_with fail
      go_ret2
      exact ⟨rfl, m + m2, rfl⟩
    · obtain ⟨x, HX⟩ : ∃ x, RowKit.Hid (fld (numL l) p z = x) := ⟨_, Lib.hid rfl⟩
      rw [Nat.min_eq_right (by omega), HX.out]
      go_enter Try.func14, Try.ntmps14
      go_wp2_with fail
      refine (left_any g w HR.out hn).mono ?_
      rintro e w1 ⟨rfl, m, rfl⟩
      rw [HZ.out]
      have HD := Lib.hid (HR.out.drewN m)
      go_wp2_with fail
      refine (ahead_any g z _ HD.out hn (by omega) (by omega)).mono ?_
      rintro e w2 ⟨rfl, m2, rfl⟩
      rw [HX.out]
      go_wp2_with fail
      go_ret2
      exact ⟨rfl, m + m2, rfl⟩

set_option maxHeartbeats 400000 in
theorem ralign_any {S : List Nat} {A : Option Addr} {n c : Nat} {l : List UInt8} {p : Nat} (g : Nat) (w : World) (hR : RA w S g A n c l p) (hS : g ∈ S) (hn : n ≤ 1000000) :
    Calls Try.prog 16 #[.pointer (some ⟨g, 0, none⟩)] w fun e w' => e = .returned (.int .i64 (gapR p : Int)) ∧ RA w' S g A n c l (p + gapR p) ∧ w.grownBy w' (some g) := by
  have hc1 := hR.cell1
  have hf1 := hR.row.thawed 1
  have hp : p ≤ 8000000 := by have := hR.le; omega
  obtain ⟨r, hr⟩ : ∃ r, gapR p = r := ⟨_, rfl⟩
  have hg : (8 - (p : Int) % 8) % 8 = (r : Int) := by rw [← hr]; unfold gapR; omega
  have hr8 : r < 8 := by rw [← hr]; unfold gapR; omega
  have HD := Lib.hid (And.intro (hR.set1 hS (p + r) (by have := hR.le; rw [← hr]; unfold gapR; omega) ((p : Int) + (r : Int)) (by omega)) (grown_setCell w g 1 (.int .i64 ((p : Int) + (r : Int)))))
  rw [hr]
  clear hR hr hS
  go_enter Try.func16, Try.ntmps16
  go_wp2_with fail
  go_ret
  exact ⟨congrArg (fun z => Ending.returned (Value.int .i64 z)) hg, HD.out.1, HD.out.2⟩

theorem y_out {T p : Nat} {n : Int} (h : n < 0) : yE T p n = 1 := by unfold yE; rw [if_pos h]
theorem y_form {T p : Nat} {n : Int} (h : ¬ n < 0) (h2 : p % 8 ≠ 0) : yE T p n = 2 := by unfold yE; rw [if_neg h, if_pos h2]
theorem y_end {T p : Nat} {n : Int} (h : ¬ n < 0) (h2 : ¬ p % 8 ≠ 0) (h3 : (8 * T - p) / 8 < n.toNat) : yE T p n = 10 := by unfold yE; rw [if_neg h, if_neg h2, if_pos h3]
theorem y_ok {T p : Nat} {n : Int} (h : ¬ n < 0) (h2 : ¬ p % 8 ≠ 0) (h3 : ¬ (8 * T - p) / 8 < n.toNat) : yE T p n = 0 := by unfold yE; rw [if_neg h, if_neg h2, if_neg h3]
theorem yB_no {l : List UInt8} {p : Nat} {n : Int} (h : yE l.length p n ≠ 0) : yB l p n = [] := by unfold yB; rw [if_neg h]
theorem yP_no {T p : Nat} {n : Int} (h : yE T p n ≠ 0) : yP T p n = p := by unfold yP; rw [if_neg h]
theorem grown_any {w w' : World} (h : w.grownBy w' none) (r : Option Nat) : w.grownBy w' r := ⟨h.os, h.tape, h.output, h.size, fun k hk _ => h.block k hk (by simp)⟩

theorem own_mono {w : World} {B B' : Nat} {v : Value} {l : List UInt8} (h : Own w B v l) (hb : B' ≤ B) : Own w B' v l := by
  refine ⟨h.1, ?_⟩
  rcases h.2 with h1 | ⟨g, cap, cur, h1, h2, h3⟩
  · exact .inl h1
  · exact .inr ⟨g, cap, cur, h1, by omega, h3⟩

set_option maxHeartbeats 1000000 in
theorem rbytes_any {S : List Nat} {A : Option Addr} {n c : Nat} {l : List UInt8} {p : Nat} (g : Nat) (k : Int) (w : World) (hR : RA w S g A n c l p) (hS : g ∈ S) (hn : n ≤ 1000000) :
    Calls Try.prog 18 #[.pointer (some ⟨g, 0, none⟩), .int .i64 k] w fun e w' => ∃ u, e = .returned (.tuple #[u, errV (yE n p k)]) ∧ Own w' w.heap.size u (yB l p k) ∧ RA w' S g A n c l (yP n p k) ∧ w.grownBy w' (some g) := by
  have hl := hR.len
  have hp8 : p ≤ 8000000 := by have := hR.le; omega
  have hc0 := hR.cell0
  have hc1 := hR.cell1
  have HR := Lib.hid hR
  have HS := Lib.hid hS
  have HL := Lib.hid hl
  clear hR hS
  by_cases h1 : k < 0
  · have he : yE n p k = 1 := y_out h1
    have hB : yB l p k = [] := yB_no (by rw [hl, he]; decide)
    have hP : yP n p k = p := yP_no (by rw [he]; decide)
    rw [he, hB, hP]
    have hd : decide (k < 0) = true := decide_eq_true h1
    clear he hB hP hl
    go_enter Try.func18, Try.ntmps18
    go_wp2_with fail
    go_ret2
    exact ⟨_, rfl, Own.nil _ _, HR.out, World.grownBy.refl _ _⟩
  · have hd : decide (k < 0) = false := decide_eq_false h1
    obtain ⟨q, rfl⟩ : ∃ q : Nat, k = (q : Int) := ⟨k.toNat, by omega⟩
    by_cases h2 : p % 8 ≠ 0
    · have he : yE n p q = 2 := y_form h1 h2
      have hB : yB l p q = [] := yB_no (by rw [hl, he]; decide)
      have hP : yP n p q = p := yP_no (by rw [he]; decide)
      rw [he, hB, hP]
      have hd2 : ((p : Int) % 8 != 0) = true := by rw [bne_iff_ne]; omega
      clear he hB hP hl h1
      go_enter Try.func18, Try.ntmps18
      go_wp2_with fail
      go_ret2
      exact ⟨_, rfl, Own.nil _ _, HR.out, World.grownBy.refl _ _⟩
    · have hd2 : ((p : Int) % 8 != 0) = false := by rw [bne_eq_false_iff_eq]; omega
      obtain ⟨z, hz⟩ : ∃ z, 8 * n - p = z := ⟨_, rfl⟩
      have HZ := Lib.hid hz
      by_cases h3 : (8 * n - p) / 8 < ((q : Nat) : Int).toNat
      · have he : yE n p q = 10 := y_end h1 h2 h3
        have hB : yB l p q = [] := yB_no (by rw [hl, he]; decide)
        have hP : yP n p q = p := yP_no (by rw [he]; decide)
        rw [he, hB, hP]
        simp only [Int.toNat_natCast] at h3
        have hd3 : decide ((z : Int) / 8 < (q : Int)) = true := decide_eq_true (by omega)
        have hzb : z ≤ 8000000 := by omega
        clear he hB hP hl h1 h2 h3 hz
        go_enter Try.func18, Try.ntmps18
        go_wp2_with fail
        refine (left_any g w HR.out hn).mono ?_
        rintro e w1 ⟨rfl, m, rfl⟩
        rw [HZ.out]
        have HD := Lib.hid (And.intro (HR.out.drewN m) (grown_drewN w m))
        generalize w.drewN m = w1 at HD ⊢
        go_wp2_with fail
        go_ret2
        exact ⟨_, rfl, Own.nil _ _, HD.out.1, grown_any HD.out.2 _⟩
      · have he : yE n p q = 0 := y_ok h1 h2 h3
        have hB : yB l p q = (l.drop (p / 8)).take q := by unfold yB; rw [hl, he]; rfl
        have hP : yP n p q = p + 8 * q := by unfold yP; rw [he]; rfl
        rw [he, hB, hP]
        simp only [Int.toNat_natCast] at h3
        have hle := HR.out.le
        obtain ⟨f, hf⟩ : ∃ f, p / 8 = f := ⟨_, rfl⟩
        have hfi : (p : Int) / 8 = (f : Int) := by omega
        rw [hf]
        have hd3 : decide ((z : Int) / 8 < (q : Int)) = false := decide_eq_false (by omega)
        have hzb : z ≤ 8000000 := by omega
        have hfq : f + q ≤ n := by omega
        have hpq : p + 8 * q ≤ 8 * n := by omega
        clear he hB hP hl h1 h2 h3 hz hle hf
        rcases HR.out.form with hA | ⟨b, o, hA⟩
        · subst hA
          have hn0 : n = 0 := by
            rcases Nat.eq_zero_or_pos n with h0 | h0
            · exact h0
            · obtain ⟨_, _, he, _⟩ := HR.out.rd.2 h0; cases he
          subst hn0
          obtain ⟨rfl, rfl, rfl⟩ : f = 0 ∧ q = 0 ∧ p = 0 := by omega
          have hcc := HR.out.cap rfl
          subst hcc
          have hl0 : l = [] := List.eq_nil_of_length_eq_zero HL.out
          subst hl0
          go_enter Try.func18, Try.ntmps18
          go_wp2_with fail
          refine (left_any g w HR.out hn).mono ?_
          rintro e w1 ⟨rfl, m, rfl⟩
          rw [HZ.out]
          have HD := Lib.hid (And.intro (HR.out.drewN m) (grown_drewN w m))
          generalize w.drewN m = w1 at HD ⊢
          have hd0 := HD.out.1.cell0
          have hd1 := HD.out.1.cell1
          have hf1 := HD.out.1.row.thawed 1
          have HD3 := Lib.hid (And.intro (HD.out.1.set1 HS.out 0 (by omega) 0 rfl) (grown_setCell w1 g 1 (.int .i64 0)))
          go_wp2_with fail
          generalize w1.setCell ⟨g, 1, none⟩ (.int .i64 0) = w2 at HD3 ⊢
          refine (clone_any none 0 0 [] w2 ⟨rfl, fun h => by omega⟩ (fun _ => rfl) (by decide)).mono ?_
          rintro e w3 ⟨u, rfl, ho, hg⟩
          have HF := Lib.hid (And.intro ho hg)
          clear ho hg
          go_wp2_with fail
          go_ret2
          have h1 := HD.out.2.size
          have h2 := HD3.out.2.size
          refine ⟨u, rfl, own_mono HF.out.1 (by omega), HD3.out.1.still HF.out.2, ((grown_any HD.out.2 _).trans HD3.out.2).trans (grown_any HF.out.2 _)⟩
        · subst hA
          have hlc := HR.out.lc
          by_cases hcf : c = f
          · obtain rfl : q = 0 := by omega
            rw [List.take_zero]
            go_enter Try.func18, Try.ntmps18
            go_wp2_with fail
            refine (left_any g w HR.out hn).mono ?_
            rintro e w1 ⟨rfl, m, rfl⟩
            rw [HZ.out]
            have HD := Lib.hid (And.intro (HR.out.drewN m) (grown_drewN w m))
            generalize w.drewN m = w1 at HD ⊢
            have hd0 := HD.out.1.cell0
            have hd1 := HD.out.1.cell1
            have hf1 := HD.out.1.row.thawed 1
            have HD3 := Lib.hid (And.intro (HD.out.1.set1 HS.out (p + 8 * 0) (by omega) (p : Int) (by omega)) (grown_setCell w1 g 1 (.int .i64 (p : Int))))
            go_wp2_with fail
            generalize w1.setCell ⟨g, 1, none⟩ (.int .i64 (p : Int)) = w2 at HD3 ⊢
            refine (clone_any (some ⟨b, o, none⟩) 0 0 [] w2 ⟨rfl, fun h => by omega⟩ (fun h => by cases h) (by omega)).mono ?_
            rintro e w3 ⟨u, rfl, ho, hg⟩
            have HF := Lib.hid (And.intro ho hg)
            clear ho hg
            go_wp2_with fail
            go_ret2
            have h1 := HD.out.2.size
            have h2 := HD3.out.2.size
            refine ⟨u, rfl, own_mono HF.out.1 (by omega), HD3.out.1.still HF.out.2, ((grown_any HD.out.2 _).trans HD3.out.2).trans (grown_any HF.out.2 _)⟩
          · go_enter Try.func18, Try.ntmps18
            go_wp2_with fail
            refine (left_any g w HR.out hn).mono ?_
            rintro e w1 ⟨rfl, m, rfl⟩
            rw [HZ.out]
            have HD := Lib.hid (And.intro (HR.out.drewN m) (grown_drewN w m))
            generalize w.drewN m = w1 at HD ⊢
            have hd0 := HD.out.1.cell0
            have hd1 := HD.out.1.cell1
            have hf1 := HD.out.1.row.thawed 1
            have HD3 := Lib.hid (And.intro (HD.out.1.set1 HS.out (p + 8 * q) (by omega) ((p : Int) + 8 * (q : Int)) (by omega)) (grown_setCell w1 g 1 (.int .i64 ((p : Int) + 8 * (q : Int)))))
            go_wp2_with fail
            generalize w1.setCell ⟨g, 1, none⟩ (.int .i64 ((p : Int) + 8 * (q : Int))) = w2 at HD3 ⊢
            have hpart : Rd w2 w2.heap.size (some ⟨b, o + f, none⟩) q (us ((l.drop f).take q)) := by
              have := HD3.out.1.rd.rd.part f q hfq
              rwa [show ((us l).drop f).take q = us ((l.drop f).take q) by simp [us]] at this
            refine (clone_any (some ⟨b, o + f, none⟩) q _ _ w2 hpart (fun h => by cases h) (by omega)).mono ?_
            rintro e w3 ⟨u, rfl, ho, hg⟩
            have HF := Lib.hid (And.intro ho hg)
            clear ho hg hpart
            go_wp2_with fail
            go_ret2
            have h1 := HD.out.2.size
            have h2 := HD3.out.2.size
            refine ⟨u, rfl, own_mono HF.out.1 (by omega), HD3.out.1.still HF.out.2, ((grown_any HD.out.2 _).trans HD3.out.2).trans (grown_any HF.out.2 _)⟩
end Go.Proofs.Ytafipnhpoopljaa
