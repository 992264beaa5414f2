/- Contracts of a Reader's Align and Bytes. -/
import Derived.Test.YtjipjclbhdgkoaaDoorRmt
namespace Go.Proofs.YtjipjclbhdgkoaaDoor
open Go.RowKit

set_option maxHeartbeats 400000 in
theorem ralign_any {S : List Nat} {A : Option Addr} {n c : Nat} {l : List UInt8} {p : Nat} (g : Nat) (w : World) (hR : RA w S g A n c l p) (hS : g ∈ S) (hn : n ≤ 1000000) :
    Calls Tryd.prog 48 #[.pointer (some ⟨g, 0, none⟩)] w fun e w' => e = .returned (.int .i64 (gapR p : Int)) ∧ RA w' S g A n c l (p + gapR p) ∧ w.grownBy w' (some g) := by
  have hc1 := hR.cell1
  have hf1 := hR.row.thawed 1
  have hp : p ≤ 8000000 := by have := hR.le; omega
  obtain ⟨r, hr⟩ : ∃ r, gapR p = r := ⟨_, rfl⟩
  have hg : (8 - (p : Int) % 8) % 8 = (r : Int) := by rw [← hr]; unfold gapR; omega
  have hr8 : r < 8 := by rw [← hr]; unfold gapR; omega
  have HD := Lib.hid (And.intro (hR.set1 hS (p + r) (by have := hR.le; rw [← hr]; unfold gapR; omega) ((p : Int) + (r : Int)) (by omega)) (grown_setCell w g 1 (.int .i64 ((p : Int) + (r : Int)))))
  rw [hr]
  clear hR hr hS
  go_enter Tryd.func48, Tryd.ntmps48
  go_wp2_with fail
  go_ret
  exact ⟨congrArg (fun z => Ending.returned (Value.int .i64 z)) hg, HD.out.1, HD.out.2⟩


set_option maxHeartbeats 1000000 in
theorem rbytes_any {S : List Nat} {A : Option Addr} {n c : Nat} {l : List UInt8} {p : Nat} (g : Nat) (k : Int) (w : World) (hR : RA w S g A n c l p) (hS : g ∈ S) (hn : n ≤ 1000000) :
    Calls Tryd.prog 51 #[.pointer (some ⟨g, 0, none⟩), .int .i64 k] w fun e w' => ∃ u, e = .returned (.tuple #[u, errV (yE n p k)]) ∧ Own w' w.heap.size u (yB l p k) ∧ RA w' S g A n c l (yP n p k) ∧ w.grownBy w' (some g) := by
  have hl := hR.len
  have hp8 : p ≤ 8000000 := by have := hR.le; omega
  have hc0 := hR.cell0
  have hc1 := hR.cell1
  have HR := Lib.hid hR
  have HS := Lib.hid hS
  have HL := Lib.hid hl
  clear hR hS
  by_cases h1 : k < 0
  · have he : yE n p k = 1 := y_out h1
    have hB : yB l p k = [] := yB_no (by rw [hl, he]; decide)
    have hP : yP n p k = p := yP_no (by rw [he]; decide)
    rw [he, hB, hP]
    have hd : decide (k < 0) = true := decide_eq_true h1
    clear he hB hP hl
    go_enter Tryd.func51, Tryd.ntmps51
    go_wp2_with fail
    go_ret2
    exact ⟨_, rfl, Own.nil _ _, HR.out, World.grownBy.refl _ _⟩
  · have hd : decide (k < 0) = false := decide_eq_false h1
    obtain ⟨q, rfl⟩ : ∃ q : Nat, k = (q : Int) := ⟨k.toNat, by omega⟩
    by_cases h2 : p % 8 ≠ 0
    · have he : yE n p q = 2 := y_form h1 h2
      have hB : yB l p q = [] := yB_no (by rw [hl, he]; decide)
      have hP : yP n p q = p := yP_no (by rw [he]; decide)
      rw [he, hB, hP]
      have hd2 : ((p : Int) % 8 != 0) = true := by rw [bne_iff_ne]; omega
      clear he hB hP hl h1
      go_enter Tryd.func51, Tryd.ntmps51
      go_wp2_with fail
      go_ret2
      exact ⟨_, rfl, Own.nil _ _, HR.out, World.grownBy.refl _ _⟩
    · have hd2 : ((p : Int) % 8 != 0) = false := by rw [bne_eq_false_iff_eq]; omega
      obtain ⟨z, hz⟩ : ∃ z, 8 * n - p = z := ⟨_, rfl⟩
      have HZ := Lib.hid hz
      by_cases h3 : (8 * n - p) / 8 < ((q : Nat) : Int).toNat
      · have he : yE n p q = 10 := y_end h1 h2 h3
        have hB : yB l p q = [] := yB_no (by rw [hl, he]; decide)
        have hP : yP n p q = p := yP_no (by rw [he]; decide)
        rw [he, hB, hP]
        simp only [Int.toNat_natCast] at h3
        have hd3 : decide ((z : Int) / 8 < (q : Int)) = true := decide_eq_true (by omega)
        have hzb : z ≤ 8000000 := by omega
        clear he hB hP hl h1 h2 h3 hz
        go_enter Tryd.func51, Tryd.ntmps51
        go_wp2_with fail
        refine (left_any g w HR.out hn).mono ?_
        rintro e w1 ⟨rfl, m, rfl⟩
        rw [HZ.out]
        have HD := Lib.hid (And.intro (HR.out.drewN m) (grown_drewN w m))
        generalize w.drewN m = w1 at HD ⊢
        go_wp2_with fail
        go_ret2
        exact ⟨_, rfl, Own.nil _ _, HD.out.1, grown_any HD.out.2 _⟩
      · have he : yE n p q = 0 := y_ok h1 h2 h3
        have hB : yB l p q = (l.drop (p / 8)).take q := by unfold yB; rw [hl, he]; rfl
        have hP : yP n p q = p + 8 * q := by unfold yP; rw [he]; rfl
        rw [he, hB, hP]
        simp only [Int.toNat_natCast] at h3
        have hle := HR.out.le
        obtain ⟨f, hf⟩ : ∃ f, p / 8 = f := ⟨_, rfl⟩
        have hfi : (p : Int) / 8 = (f : Int) := by omega
        rw [hf]
        have hd3 : decide ((z : Int) / 8 < (q : Int)) = false := decide_eq_false (by omega)
        have hzb : z ≤ 8000000 := by omega
        have hfq : f + q ≤ n := by omega
        have hpq : p + 8 * q ≤ 8 * n := by omega
        clear he hB hP hl h1 h2 h3 hz hle hf
        rcases HR.out.form with hA | ⟨b, o, hA⟩
        · subst hA
          have hn0 : n = 0 := by
            rcases Nat.eq_zero_or_pos n with h0 | h0
            · exact h0
            · obtain ⟨_, _, he, _⟩ := HR.out.rd.2 h0; cases he
          subst hn0
          obtain ⟨rfl, rfl, rfl⟩ : f = 0 ∧ q = 0 ∧ p = 0 := by omega
          have hcc := HR.out.cap rfl
          subst hcc
          have hl0 : l = [] := List.eq_nil_of_length_eq_zero HL.out
          subst hl0
          go_enter Tryd.func51, Tryd.ntmps51
          go_wp2_with fail
          refine (left_any g w HR.out hn).mono ?_
          rintro e w1 ⟨rfl, m, rfl⟩
          rw [HZ.out]
          have HD := Lib.hid (And.intro (HR.out.drewN m) (grown_drewN w m))
          generalize w.drewN m = w1 at HD ⊢
          have hd0 := HD.out.1.cell0
          have hd1 := HD.out.1.cell1
          have hf1 := HD.out.1.row.thawed 1
          have HD3 := Lib.hid (And.intro (HD.out.1.set1 HS.out 0 (by omega) 0 rfl) (grown_setCell w1 g 1 (.int .i64 0)))
          go_wp2_with fail
          generalize w1.setCell ⟨g, 1, none⟩ (.int .i64 0) = w2 at HD3 ⊢
          refine (clone_any none 0 0 [] w2 ⟨rfl, fun h => by omega⟩ (fun _ => rfl) (by decide)).mono ?_
          rintro e w3 ⟨u, rfl, ho, hg⟩
          have HF := Lib.hid (And.intro ho hg)
          clear ho hg
          go_wp2_with fail
          go_ret2
          have h1 := HD.out.2.size
          have h2 := HD3.out.2.size
          refine ⟨u, rfl, own_mono HF.out.1 (by omega), HD3.out.1.still HF.out.2, ((grown_any HD.out.2 _).trans HD3.out.2).trans (grown_any HF.out.2 _)⟩
        · subst hA
          have hlc := HR.out.lc
          by_cases hcf : c = f
          · obtain rfl : q = 0 := by omega
            rw [List.take_zero]
            go_enter Tryd.func51, Tryd.ntmps51
            go_wp2_with fail
            refine (left_any g w HR.out hn).mono ?_
            rintro e w1 ⟨rfl, m, rfl⟩
            rw [HZ.out]
            have HD := Lib.hid (And.intro (HR.out.drewN m) (grown_drewN w m))
            generalize w.drewN m = w1 at HD ⊢
            have hd0 := HD.out.1.cell0
            have hd1 := HD.out.1.cell1
            have hf1 := HD.out.1.row.thawed 1
            have HD3 := Lib.hid (And.intro (HD.out.1.set1 HS.out (p + 8 * 0) (by omega) (p : Int) (by omega)) (grown_setCell w1 g 1 (.int .i64 (p : Int))))
            go_wp2_with fail
            generalize w1.setCell ⟨g, 1, none⟩ (.int .i64 (p : Int)) = w2 at HD3 ⊢
            refine (clone_any (some ⟨b, o, none⟩) 0 0 [] w2 ⟨rfl, fun h => by omega⟩ (fun h => by cases h) (by omega)).mono ?_
            rintro e w3 ⟨u, rfl, ho, hg⟩
            have HF := Lib.hid (And.intro ho hg)
            clear ho hg
            go_wp2_with fail
            go_ret2
            have h1 := HD.out.2.size
            have h2 := HD3.out.2.size
            refine ⟨u, rfl, own_mono HF.out.1 (by omega), HD3.out.1.still HF.out.2, ((grown_any HD.out.2 _).trans HD3.out.2).trans (grown_any HF.out.2 _)⟩
          · go_enter Tryd.func51, Tryd.ntmps51
            go_wp2_with fail
            refine (left_any g w HR.out hn).mono ?_
            rintro e w1 ⟨rfl, m, rfl⟩
            rw [HZ.out]
            have HD := Lib.hid (And.intro (HR.out.drewN m) (grown_drewN w m))
            generalize w.drewN m = w1 at HD ⊢
            have hd0 := HD.out.1.cell0
            have hd1 := HD.out.1.cell1
            have hf1 := HD.out.1.row.thawed 1
            have HD3 := Lib.hid (And.intro (HD.out.1.set1 HS.out (p + 8 * q) (by omega) ((p : Int) + 8 * (q : Int)) (by omega)) (grown_setCell w1 g 1 (.int .i64 ((p : Int) + 8 * (q : Int)))))
            go_wp2_with fail
            generalize w1.setCell ⟨g, 1, none⟩ (.int .i64 ((p : Int) + 8 * (q : Int))) = w2 at HD3 ⊢
            have hpart : Rd w2 w2.heap.size (some ⟨b, o + f, none⟩) q (us ((l.drop f).take q)) := by
              have := HD3.out.1.rd.rd.part f q hfq
              rwa [show ((us l).drop f).take q = us ((l.drop f).take q) by simp [us]] at this
            refine (clone_any (some ⟨b, o + f, none⟩) q _ _ w2 hpart (fun h => by cases h) (by omega)).mono ?_
            rintro e w3 ⟨u, rfl, ho, hg⟩
            have HF := Lib.hid (And.intro ho hg)
            clear ho hg hpart
            go_wp2_with fail
            go_ret2
            have h1 := HD.out.2.size
            have h2 := HD3.out.2.size
            refine ⟨u, rfl, own_mono HF.out.1 (by omega), HD3.out.1.still HF.out.2, ((grown_any HD.out.2 _).trans HD3.out.2).trans (grown_any HF.out.2 _)⟩
end Go.Proofs.YtjipjclbhdgkoaaDoor
