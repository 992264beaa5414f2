/- Contract of repeat: bytes that were put out before. -/
import Derived.Test.YtjipjclbhdgkoaaDoorMpl
import Derived.Deep.RegionHeld3
namespace Go.Proofs.YtjipjclbhdgkoaaDoor
open Go.RowKit

variable {g r H : Nat} {A : Option Addr} {n c : Nat} {l : List UInt8} {lim : Nat} {v : Value} {s : Sx}
/-- A byte put out: the append and the store. -/
theorem copyL_step {far k : Nat} {o : List UInt8} {x : UInt8} (h : o[o.length - far]? = some x) : copyL far (k + 1) o = copyL far k (o ++ [x]) := by
  rw [copyL, List.getD_eq_getElem?_getD, h]; rfl

set_option maxHeartbeats 1000000 in
set_option maxRecDepth 20000 in
theorem repeat_any (k far : Nat) (hk : k ≤ 1000) (h1 : 1 ≤ far) (hf : far ≤ 1000000) (w : World) (hm : MS w g r H A n c l lim v s) :
    Calls Tryd.prog 54 #[.pointer (some ⟨g, 0, none⟩), .int .i64 (k : Int), .int .i64 (far : Int)] w (Out w g r H A n c l lim v (copyX k far (bitsL l) lim s) unit) := by
  obtain ⟨A1, c1, hv⟩ := hm.own.slice
  have cv := hm.cell1
  rw [hv] at cv
  have HM := Lib.hid hm
  obtain ⟨q, hq⟩ : ∃ q, s.out.length = q := ⟨_, rfl⟩
  have HQ := Lib.hid hq
  have hql : q ≤ 1048576 := by have := hm.ol; have := hm.lm; omega
  rw [hq] at cv
  unfold copyX
  rw [hq]
  clear hm hv hq
  by_cases h2 : q < far
  · rw [if_pos h2]
    have hd : decide ((far : Int) ≤ (q : Int)) = false := decide_eq_false (by omega)
    go_enter Tryd.func54, Tryd.ntmps54
    go_wp2_with fail
    refine (must_no w _ (by first | rfl | (simp; omega))).mono ?_
    rintro e w1 ⟨rfl, rfl⟩
    exact ⟨rfl, Out.thrown rfl (Moves.refl w g r v) 2 rfl⟩
  · rw [if_neg h2]
    have hd : decide ((far : Int) ≤ (q : Int)) = true := decide_eq_true (by omega)
    obtain ⟨X, HX⟩ : ∃ X, RowKit.Hid ((if lim < q + k then Except.error 3 else Except.ok ((), (⟨s.pos, copyL far k s.out, s.steps⟩ : Sx))) = X) := ⟨_, Lib.hid rfl⟩
    rw [HX.out]
    go_enter Tryd.func54, Tryd.ntmps54
    go_wp2_with fail
    refine (must_ok w _ (by first | rfl | (simp; omega))).mono ?_
    rintro e w1 ⟨rfl, rfl⟩
    clear cv hd
    go_wp2_with fail
    refine (room_any k (by omega) w HM.out).mono ?_
    rintro e w1 (⟨u, s1, v1, hx1, hm1, hg1, he1⟩ | ⟨k2, b2, v1, hx1, rfl, hb2, hc2, hg1⟩)
    rotate_left
    · refine ⟨rfl, Out.passed (Moves.refl w g r v) ?_ hb2 hc2 hg1⟩
      have hh := room_err hx1
      rw [HQ.out] at hh
      rw [← HX.out, if_pos hh.2, hh.1]
    obtain rfl := he1
    have hh := room_ok hx1
    rw [hh.1] at hm1
    have hroom := hh.2
    rw [HQ.out] at hroom
    have HX1 : RowKit.Hid (Except.ok ((), (⟨s.pos, copyL far k s.out, s.steps⟩ : Sx)) = X) := Lib.hid (by rw [← HX.out, if_neg (by omega)])
    have HM1 := Lib.hid hm1
    have HG1 := Lib.hid hg1
    have HRM := Lib.hid hroom
    clear hh hroom hm1 hg1 hx1 HX HM
    go_wp2_with fail
    go_loopw [18] (fun i wr => ∃ (j : Nat) (v' : Value) (o' : List UInt8), j ≤ k ∧ i = .int .i64 (j : Int) ∧ MS wr g r H A n c l lim v' ⟨s.pos, o', s.steps⟩ ∧ Moves w wr g r v v' ∧ o'.length = q + j ∧ copyL far (k - j) o' = copyL far k s.out) (fun i _ => k - (intOf i).toNat)
    case atStart => exact ⟨0, v1, s.out, Nat.zero_le _, rfl, HM1.out, HG1.out, by rw [HQ.out]; rfl, rfl⟩
    case round =>
      clear HM1 HG1
      obtain ⟨j, v', o', hj, rfl, hm2, hg2, hl2, hc2⟩ := hrel
      by_cases hlt : j < k
      · obtain ⟨b, c', x, rfl, hx, hc⟩ := hm2.own.at8 (k := o'.length - far) (show o'.length - far < o'.length by omega)
        have cc := hm2.cell1
        have HXX := Lib.hid hx
        have HMW := Lib.hid hm2
        obtain ⟨fl, fd, hrow, hfx⟩ := hm2.fx
        have HRW := Lib.hid hrow
        clear hfx hrow
        have HGW := Lib.hid hg2
        have HL2 := Lib.hid hl2
        have HC2 := Lib.hid hc2
        obtain ⟨m, hmm⟩ : ∃ m, o'.length = m := ⟨_, rfl⟩
        have HMM := Lib.hid hmm
        rw [hmm] at cc hc HGW HMW HRW hl2
        obtain ⟨p, hp⟩ : ∃ p, m - far = p := ⟨_, rfl⟩
        rw [hp] at hc
        have e1 : (m : Int) - (far : Int) = (p : Int) := by omega
        have e2 : IntKind.i64.wrap (p : Int) = (p : Int) := wrap64_in _ (by omega) (by omega)
        have e3 : p < m := by omega
        have hd : decide ((j : Int) < (k : Int)) = true := decide_eq_true (by omega)
        have hx8 : x.toNat < 256 := x.toNat_lt
        have HB : RowKit.Hid (g + 1 ≤ wr.heap.size) := Lib.hid HMW.out.lt
        have HS : RowKit.Hid (o'.length + 1 ≤ 4000000) := Lib.hid (by omega)
        have HM9 : RowKit.Hid (m + 1 ≤ lim) := Lib.hid (by have := HRM.out; omega)
        clear hm2 hg2 hc2 hx hp hmm hl2
        go_wp2_with fail
        have HQX : RowKit.Hid ((o' ++ [x]).length = m + 1) := Lib.hid (by rw [List.length_append, HMM.out]; rfl)
        have cca : ∀ o, (wr.alloc o).cell? ⟨g, 1, none⟩ = some (.slice (some ⟨b, 0, none⟩) m c') := fun o => (World.cell?_alloc_some wr _ o (by rw [cc]; rfl)).trans cc
        go_region_law ((refine step8c wr rfl (.tmp 24) (.tmp 38) rfl (g + 1) _ o' [x] _ 1 rfl rfl HMW.out.own rfl rfl HB.out HS.out ?_); intro v6 w6 ho6 hg6 hf6; obtain ⟨A6, c6, hv6⟩ := ho6.slice; rw [HQX.out] at hv6; subst hv6; have hr6 := HRW.out.grown hg6 (HMW.out.ne (Nat.le_refl _)); have c61 : w6.cell? ⟨g, 1, none⟩ = some _ := hr6.cell 1; have f61 := hr6.thawed 1)
        all_goals
          obtain ⟨hM7, hG7⟩ := HMW.out.text hg6 ho6 hf6 (by rw [HQX.out]; exact HM9.out)
          have HG7 := Lib.hid (HGW.out.trans hG7)
          have HM7 := Lib.hid hM7
          clear hM7 hG7 hr6 ho6 hg6 hf6
          go_wp2_with fail
          go_roundw
          case rel => exact ⟨j + 1, _, o' ++ [x], by omega, by simp, HM7.out, HG7.out, by rw [HQX.out, ← HMM.out, HL2.out]; omega, by rw [← HC2.out, show k - j = (k - (j + 1)) + 1 by omega, copyL_step HXX.out]⟩
          case measure => simp [intOf]; omega
      · obtain rfl : j = k := by omega
        have hd : decide ((j : Int) < (j : Int)) = false := decide_eq_false (by omega)
        have HM3 := Lib.hid hm2
        have HG3 := Lib.hid hg2
        have HC3 : RowKit.Hid (o' = copyL far j s.out) := Lib.hid (by rw [← hc2, Nat.sub_self]; rfl)
        clear hm2 hg2 hc2 hl2
        go_wp2_with fail
        go_end0
        exact .inl ⟨(), _, v', HX1.out.symm, by rw [← HC3.out]; exact HM3.out, HG3.out, rfl⟩
end Go.Proofs.YtjipjclbhdgkoaaDoor
