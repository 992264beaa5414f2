/- Contract of deflate's matched. -/
import Derived.Test.YtnadnokjhinmcaaTok
import Derived.BigQuiet
namespace Go.Proofs.Ytnadnokjhinmcaa
open Go.RowKit

theorem drewN_two (w : World) (a b : Nat) : (w.drewN a).drewN b = w.drewN (a + b) := by
  induction b with
  | zero => rfl
  | succ b ih => rw [← Nat.add_assoc]; exact congrArg World.drew ih
/-- A byte of the text, where it is. -/
theorem Rd.byte {w : World} {B : Nat} {A : Option Addr} {n : Nat} {l : List UInt8} (h : Rd w B A n (us l)) {k : Nat} (hk : k < n) :
    ∃ g o, A = some ⟨g, o, none⟩ ∧ g < B ∧ ∀ j, j < n → w.cell? ⟨g, o + j, none⟩ = some (.int .u8 ((l.getD j 0).toNat : Int)) := by
  obtain ⟨g, o, rfl, hg, hc⟩ := h.2 (by omega)
  refine ⟨g, o, rfl, hg, fun j hj => hc j _ ?_⟩
  have hl : j < l.length := by have := h.1; rw [us_length] at this; omega
  simp [us, List.getElem?_eq_getElem hl, List.getD_eq_getElem?_getD]
theorem mt_more {t : List UInt8} {p q k n : Nat} (h : t.getD (p + n) 0 = t.getD (q + n) 0) : mt t p q (k + 1) n = mt t p q k (n + 1) := by
  rw [mt, if_pos h]
theorem mt_stop {t : List UInt8} {p q k n : Nat} (h : ¬ t.getD (p + n) 0 = t.getD (q + n) 0) : mt t p q (k + 1) n = n := by
  rw [mt, if_neg h]

set_option maxHeartbeats 2000000 in
theorem matched_any (A : Option Addr) (n c : Nat) (l : List UInt8) (p q most : Nat) (w : World) (hr : Rd w w.heap.size A n (us l)) (hp : p + most ≤ n) (hq : q + most ≤ n) (hn : n ≤ 1000000) :
    Calls Try.prog 27 #[.slice A n c, .int .i64 (p : Int), .int .i64 (q : Int), .int .i64 (most : Int)] w fun e w' => e = .returned (.int .i64 (mlen l p q most : Int)) ∧ ∃ k, w' = w.drewN k := by
  obtain ⟨X, HX⟩ : ∃ X, RowKit.Hid (mlen l p q most = X) := ⟨_, Lib.hid rfl⟩
  rw [HX.out]
  have HR := Lib.hid hr
  clear hr
  go_enter Try.func27, Try.ntmps27
  go_wp2_with fail
  go_loopw [9] (fun i wr => ∃ k s : Nat, k ≤ most ∧ i = .int .i64 (k : Int) ∧ wr = w.drewN s ∧ mt l p q (most - k) k = X) (fun i _ => most - (intOf i).toNat)
  case atStart => exact ⟨0, 0, by omega, rfl, rfl, HX.out⟩
  case round =>
    obtain ⟨k, s, hk, rfl, hwr, hm⟩ := hrel
    have HW := Lib.hid hwr
    have HM := Lib.hid hm
    clear hwr hm
    by_cases hlt : k < most
    · have d1 : decide ((k : Int) < (most : Int)) = true := decide_eq_true (by omega)
      obtain ⟨g, o, rfl, hg, hc⟩ := HR.out.byte (k := p + k) (by omega)
      have c1 : wr.cell? ⟨g, o + (p + k), none⟩ = some (.int .u8 ((l.getD (p + k) 0).toNat : Int)) := by rw [HW.out]; exact hc _ (by omega)
      have c2 : wr.cell? ⟨g, o + (q + k), none⟩ = some (.int .u8 ((l.getD (q + k) 0).toNat : Int)) := by rw [HW.out]; exact hc _ (by omega)
      obtain ⟨i1, e1⟩ : ∃ i1, p + k = i1 := ⟨_, rfl⟩
      obtain ⟨i2, e2⟩ : ∃ i2, q + k = i2 := ⟨_, rfl⟩
      have f1 : (p : Int) + (k : Int) = (i1 : Int) := by omega
      have f2 : (q : Int) + (k : Int) = (i2 : Int) := by omega
      have b1 : i1 < n := by omega
      have b2 : i2 < n := by omega
      have HE := Lib.hid (And.intro e1 e2)
      rw [e1] at c1
      rw [e2] at c2
      obtain ⟨x, hx⟩ : ∃ x, l.getD i1 0 = x := ⟨_, rfl⟩
      obtain ⟨y, hy⟩ : ∃ y, l.getD i2 0 = y := ⟨_, rfl⟩
      rw [hx] at c1
      rw [hy] at c2
      have HXY := Lib.hid (And.intro hx hy)
      clear hc hx hy e1 e2
      by_cases hxy : x = y
      · subst hxy
        have d2 : ((x.toNat : Int) == (x.toNat : Int)) = true := by simp
        have HM2 : RowKit.Hid (mt l p q (most - (k + 1)) (k + 1) = X) := Lib.hid (by
          rw [← HM.out, show most - k = (most - (k + 1)) + 1 by omega, mt_more (by rw [HE.out.1, HE.out.2, HXY.out.1, HXY.out.2])])
        go_wp2_with fail
        go_quiet (fail)
        have HW2 : RowKit.Hid (wr.drewN nq = w.drewN (s + nq)) := Lib.hid (by rw [HW.out]; exact drewN_two w s nq)
        generalize wr.drewN nq = w6 at HW2 ⊢
        clear HW c1 c2 HM
        go_wp2_with fail
        go_roundw
        case rel => exact ⟨k + 1, s + nq, by omega, by simp, HW2.out, HM2.out⟩
        case measure => simp [intOf]; omega
      · have d2 : ((x.toNat : Int) == (y.toNat : Int)) = false := by
          rw [beq_eq_false_iff_ne]
          intro e
          exact hxy (UInt8.toNat_inj.1 (by omega))
        have HXK : RowKit.Hid (X = k) := Lib.hid (by
          rw [← HM.out, show most - k = (most - (k + 1)) + 1 by omega, mt_stop (by rw [HE.out.1, HE.out.2, HXY.out.1, HXY.out.2]; exact hxy)])
        go_wp2_with fail
        go_quiet (fail)
        have HW2 : RowKit.Hid (wr.drewN nq = w.drewN (s + nq)) := Lib.hid (by rw [HW.out]; exact drewN_two w s nq)
        generalize wr.drewN nq = w6 at HW2 ⊢
        clear HW c1 c2 HM
        go_wp2_with fail
        go_ret
        exact ⟨by rw [HXK.out]; rfl, _, HW2.out⟩
    · obtain rfl : k = most := by omega
      have d1 : decide ((k : Int) < (k : Int)) = false := decide_eq_false (by omega)
      have HXK : RowKit.Hid (X = k) := Lib.hid (by rw [← HM.out, Nat.sub_self]; rfl)
      go_wp2_with fail
      go_quiet (fail)
      have HW2 : RowKit.Hid (wr.drewN nq = w.drewN (s + nq)) := Lib.hid (by rw [HW.out]; exact drewN_two w s nq)
      generalize wr.drewN nq = w6 at HW2 ⊢
      clear HW HM
      go_wp2_with fail
      go_ret
      exact ⟨by rw [HXK.out]; rfl, _, HW2.out⟩
end Go.Proofs.Ytnadnokjhinmcaa
