/- Contract of the reference's told. -/
import Derived.Test.YtjipjclbhdgkoaaDoorRth
namespace Go.Proofs.YtjipjclbhdgkoaaDoor
open Go.RowKit

variable {h : Nat} {A : Option Addr} {N c : Nat} {M : List UInt8} {lim : Nat} {v : Value} {s : Sx} {bad : Nat}
set_option maxHeartbeats 8000000 in
set_option maxRecDepth 20000 in
theorem rtold_any : ToldC := by
  intro h A N c M lim v s w g hsp hol
  obtain ⟨X, HX⟩ : ∃ X, RowKit.Hid (toldX M lim s = X) := ⟨_, Lib.hid rfl⟩
  rw [HX.out]
  have hX := HX.out
  rw [told_eq] at hX
  have HX0 := Lib.hid hX
  have HG := Lib.hid g
  have HS0 := Lib.hid (And.intro hsp hol)
  have HSZ : RowKit.Hid (h < w.heap.size) := Lib.hid g.lt
  clear hX HX g hsp hol
  go_enter Tryd.func23, Tryd.ntmps23
  go_wp2_with fail
  refine (rnum_any 5 (by omega) w HG.out).mono ?_
  rintro e w1 (⟨a, s1, v1, hx1, hg1, hm1, he1⟩ | ⟨k1, s1, v1, hx1, hk1, hg1, hm1, he1⟩)
  rotate_left
  · obtain rfl := he1
    have HXE : RowKit.Hid (X = .error k1) := Lib.hid (bind_err hx1 HX0.out)
    have HGB := Lib.hid hg1
    have HMB := Lib.hid hm1
    have hkb := hk1
    clear hg1 hm1 hx1
    go_wp2_with fail
    refine (rnum_bad 5 w1 HGB.out hkb).mono ?_
    rintro e wz ⟨rfl, rfl⟩
    go_wp2_with fail
    refine (rnum_bad 4 w1 HGB.out hkb).mono ?_
    rintro e wz ⟨rfl, rfl⟩
    go_wp2_with fail
    refine (rwrong_no _ _ w1 HGB.out (.inl hkb)).mono ?_
    rintro e wz ⟨rfl, rfl⟩
    go_wp2_with (with_reducible refine makeI _ rfl _ _ rfl 19 rfl rfl (by omega) ?_)
    intro wm rm gm sm
    have hgl := gm.trans (World.grownBy_alloc wm (.cells #[.int .i64 16, .int .i64 17, .int .i64 18, .int .i64 0, .int .i64 8, .int .i64 7, .int .i64 9, .int .i64 6, .int .i64 10, .int .i64 5, .int .i64 11, .int .i64 4, .int .i64 12, .int .i64 3, .int .i64 13, .int .i64 2, .int .i64 14, .int .i64 1, .int .i64 15] 3) none)
    have HGC := Lib.hid (HGB.out.still hgl)
    have HMC := Lib.hid (HMB.out.trans (Moves.grown (g := h) (r := h) v1 hgl (.inl rfl)))
    have c5b := HGC.out.cell5
    have eb1 : ((k1 : Int) == 0) = false := by rw [beq_eq_false_iff_ne]; omega
    have eb2 : ¬ (k1 : Int) = 0 := by omega
    clear rm gm sm hgl
    go_wp2_with fail
    generalize wm.alloc (.cells #[.int .i64 16, .int .i64 17, .int .i64 18, .int .i64 0, .int .i64 8, .int .i64 7, .int .i64 9, .int .i64 6, .int .i64 10, .int .i64 5, .int .i64 11, .int .i64 4, .int .i64 12, .int .i64 3, .int .i64 13, .int .i64 2, .int .i64 14, .int .i64 1, .int .i64 15] 3) = wn at HGC HMC c5b ⊢
    go_loopw [9] (fun i wr => i = .int .i64 0 ∧ wr = wn) (fun _ _ => 0)
    case atStart => exact ⟨rfl, rfl⟩
    case round =>
      obtain ⟨rfl, rfl⟩ := hrel
      go_wp2_with fail
      all_goals
        go_ret2
        exact .inr ⟨k1, s1, v1, HXE.out, hkb, HGC.out, HMC.out, _, _, rfl⟩
  obtain rfl := he1
  have ha : a < 32 := numX_lt HG.out.bin hx1
  have HX1 := Lib.hid (bind_go hx1 HX0.out)
  have HG1 := Lib.hid hg1
  have HM1 := Lib.hid hm1
  have HN1 := Lib.hid (num_ok hx1)
  obtain ⟨la, hla⟩ : ∃ la, 257 + a = la := ⟨_, rfl⟩
  have ea : 257 + (a : Int) = (la : Int) := by omega
  clear hg1 hm1 hx1 HG HX0
  go_wp2_with fail
  refine (rnum_any 5 (by omega) w1 HG1.out).mono ?_
  rintro e w2 (⟨b, s2, v2, hx2, hg2, hm2, he2⟩ | ⟨k2, s2, v2, hx2, hk2, hg2, hm2, he2⟩)
  rotate_left
  · obtain rfl := he2
    have HXE : RowKit.Hid (X = .error k2) := Lib.hid (bind_err hx2 HX1.out)
    have HGB := Lib.hid hg2
    have HMB := Lib.hid (HM1.out.trans hm2)
    have hkb := hk2
    clear hg2 hm2 hx2 ea
    by_cases hq : 286 < la
    · have dq : decide (286 < (la : Int)) = true := decide_eq_true (by omega)
      go_wp2_with fail
      refine (rnum_bad 4 w2 HGB.out hkb).mono ?_
      rintro e wz ⟨rfl, rfl⟩
      go_wp2_with fail
      refine (rwrong_no _ _ w2 HGB.out (.inl hkb)).mono ?_
      rintro e wz ⟨rfl, rfl⟩
      go_wp2_with (with_reducible refine makeI _ rfl _ _ rfl 19 rfl rfl (by omega) ?_)
      intro wm rm gm sm
      have hgl := gm.trans (World.grownBy_alloc wm (.cells #[.int .i64 16, .int .i64 17, .int .i64 18, .int .i64 0, .int .i64 8, .int .i64 7, .int .i64 9, .int .i64 6, .int .i64 10, .int .i64 5, .int .i64 11, .int .i64 4, .int .i64 12, .int .i64 3, .int .i64 13, .int .i64 2, .int .i64 14, .int .i64 1, .int .i64 15] 3) none)
      have HGC := Lib.hid (HGB.out.still hgl)
      have HMC := Lib.hid (HMB.out.trans (Moves.grown (g := h) (r := h) v2 hgl (.inl rfl)))
      have c5b := HGC.out.cell5
      have eb1 : ((k2 : Int) == 0) = false := by rw [beq_eq_false_iff_ne]; omega
      have eb2 : ¬ (k2 : Int) = 0 := by omega
      clear rm gm sm hgl
      go_wp2_with fail
      generalize wm.alloc (.cells #[.int .i64 16, .int .i64 17, .int .i64 18, .int .i64 0, .int .i64 8, .int .i64 7, .int .i64 9, .int .i64 6, .int .i64 10, .int .i64 5, .int .i64 11, .int .i64 4, .int .i64 12, .int .i64 3, .int .i64 13, .int .i64 2, .int .i64 14, .int .i64 1, .int .i64 15] 3) = wn at HGC HMC c5b ⊢
      go_loopw [9] (fun i wr => i = .int .i64 0 ∧ wr = wn) (fun _ _ => 0)
      case atStart => exact ⟨rfl, rfl⟩
      case round =>
        obtain ⟨rfl, rfl⟩ := hrel
        go_wp2_with fail
        all_goals
          go_ret2
          exact .inr ⟨k2, s2, v2, HXE.out, hkb, HGC.out, HMC.out, _, _, rfl⟩
    have dq : decide (286 < (la : Int)) = false := decide_eq_false (by omega)
    go_wp2_with fail
    refine (rnum_bad 4 w2 HGB.out hkb).mono ?_
    rintro e wz ⟨rfl, rfl⟩
    go_wp2_with fail
    refine (rwrong_no _ _ w2 HGB.out (.inl hkb)).mono ?_
    rintro e wz ⟨rfl, rfl⟩
    go_wp2_with (with_reducible refine makeI _ rfl _ _ rfl 19 rfl rfl (by omega) ?_)
    intro wm rm gm sm
    have hgl := gm.trans (World.grownBy_alloc wm (.cells #[.int .i64 16, .int .i64 17, .int .i64 18, .int .i64 0, .int .i64 8, .int .i64 7, .int .i64 9, .int .i64 6, .int .i64 10, .int .i64 5, .int .i64 11, .int .i64 4, .int .i64 12, .int .i64 3, .int .i64 13, .int .i64 2, .int .i64 14, .int .i64 1, .int .i64 15] 3) none)
    have HGC := Lib.hid (HGB.out.still hgl)
    have HMC := Lib.hid (HMB.out.trans (Moves.grown (g := h) (r := h) v2 hgl (.inl rfl)))
    have c5b := HGC.out.cell5
    have eb1 : ((k2 : Int) == 0) = false := by rw [beq_eq_false_iff_ne]; omega
    have eb2 : ¬ (k2 : Int) = 0 := by omega
    clear rm gm sm hgl
    go_wp2_with fail
    generalize wm.alloc (.cells #[.int .i64 16, .int .i64 17, .int .i64 18, .int .i64 0, .int .i64 8, .int .i64 7, .int .i64 9, .int .i64 6, .int .i64 10, .int .i64 5, .int .i64 11, .int .i64 4, .int .i64 12, .int .i64 3, .int .i64 13, .int .i64 2, .int .i64 14, .int .i64 1, .int .i64 15] 3) = wn at HGC HMC c5b ⊢
    go_loopw [9] (fun i wr => i = .int .i64 0 ∧ wr = wn) (fun _ _ => 0)
    case atStart => exact ⟨rfl, rfl⟩
    case round =>
      obtain ⟨rfl, rfl⟩ := hrel
      go_wp2_with fail
      all_goals
        go_ret2
        exact .inr ⟨k2, s2, v2, HXE.out, hkb, HGC.out, HMC.out, _, _, rfl⟩
  obtain rfl := he2
  have hb : b < 32 := numX_lt HG1.out.bin hx2
  have HX2 := Lib.hid (bind_go hx2 HX1.out)
  have HG2 := Lib.hid hg2
  have HM2 := Lib.hid (HM1.out.trans hm2)
  have HN2 := Lib.hid (num_ok hx2)
  obtain ⟨lb, hlb⟩ : ∃ lb, 1 + b = lb := ⟨_, rfl⟩
  have eb : 1 + (b : Int) = (lb : Int) := by omega
  clear hg2 hm2 hx2 HG1 HM1 HX1 ea
  go_wp2_with fail
  refine (rnum_any 4 (by omega) w2 HG2.out).mono ?_
  rintro e w3 (⟨d, s3, v3, hx3, hg3, hm3, he3⟩ | ⟨k3, s3, v3, hx3, hk3, hg3, hm3, he3⟩)
  rotate_left
  · obtain rfl := he3
    have HXE : RowKit.Hid (X = .error k3) := Lib.hid (bind_err hx3 HX2.out)
    have HGB := Lib.hid hg3
    have HMB := Lib.hid (HM2.out.trans hm3)
    have hkb := hk3
    clear hg3 hm3 hx3 eb
    by_cases hq : 286 < la
    · have dq : decide (286 < (la : Int)) = true := decide_eq_true (by omega)
      go_wp2_with fail
      refine (rwrong_no _ _ w3 HGB.out (.inl hkb)).mono ?_
      rintro e wz ⟨rfl, rfl⟩
      go_wp2_with (with_reducible refine makeI _ rfl _ _ rfl 19 rfl rfl (by omega) ?_)
      intro wm rm gm sm
      have hgl := gm.trans (World.grownBy_alloc wm (.cells #[.int .i64 16, .int .i64 17, .int .i64 18, .int .i64 0, .int .i64 8, .int .i64 7, .int .i64 9, .int .i64 6, .int .i64 10, .int .i64 5, .int .i64 11, .int .i64 4, .int .i64 12, .int .i64 3, .int .i64 13, .int .i64 2, .int .i64 14, .int .i64 1, .int .i64 15] 3) none)
      have HGC := Lib.hid (HGB.out.still hgl)
      have HMC := Lib.hid (HMB.out.trans (Moves.grown (g := h) (r := h) v3 hgl (.inl rfl)))
      have c5b := HGC.out.cell5
      have eb1 : ((k3 : Int) == 0) = false := by rw [beq_eq_false_iff_ne]; omega
      have eb2 : ¬ (k3 : Int) = 0 := by omega
      clear rm gm sm hgl
      go_wp2_with fail
      generalize wm.alloc (.cells #[.int .i64 16, .int .i64 17, .int .i64 18, .int .i64 0, .int .i64 8, .int .i64 7, .int .i64 9, .int .i64 6, .int .i64 10, .int .i64 5, .int .i64 11, .int .i64 4, .int .i64 12, .int .i64 3, .int .i64 13, .int .i64 2, .int .i64 14, .int .i64 1, .int .i64 15] 3) = wn at HGC HMC c5b ⊢
      go_loopw [9] (fun i wr => i = .int .i64 0 ∧ wr = wn) (fun _ _ => 0)
      case atStart => exact ⟨rfl, rfl⟩
      case round =>
        obtain ⟨rfl, rfl⟩ := hrel
        go_wp2_with fail
        all_goals
          go_ret2
          exact .inr ⟨k3, s3, v3, HXE.out, hkb, HGC.out, HMC.out, _, _, rfl⟩
    have dq : decide (286 < (la : Int)) = false := decide_eq_false (by omega)
    by_cases hq2 : 30 < lb
    · have dq2 : decide (30 < (lb : Int)) = true := decide_eq_true (by omega)
      go_wp2_with fail
      refine (rwrong_no _ _ w3 HGB.out (.inl hkb)).mono ?_
      rintro e wz ⟨rfl, rfl⟩
      go_wp2_with (with_reducible refine makeI _ rfl _ _ rfl 19 rfl rfl (by omega) ?_)
      intro wm rm gm sm
      have hgl := gm.trans (World.grownBy_alloc wm (.cells #[.int .i64 16, .int .i64 17, .int .i64 18, .int .i64 0, .int .i64 8, .int .i64 7, .int .i64 9, .int .i64 6, .int .i64 10, .int .i64 5, .int .i64 11, .int .i64 4, .int .i64 12, .int .i64 3, .int .i64 13, .int .i64 2, .int .i64 14, .int .i64 1, .int .i64 15] 3) none)
      have HGC := Lib.hid (HGB.out.still hgl)
      have HMC := Lib.hid (HMB.out.trans (Moves.grown (g := h) (r := h) v3 hgl (.inl rfl)))
      have c5b := HGC.out.cell5
      have eb1 : ((k3 : Int) == 0) = false := by rw [beq_eq_false_iff_ne]; omega
      have eb2 : ¬ (k3 : Int) = 0 := by omega
      clear rm gm sm hgl
      go_wp2_with fail
      generalize wm.alloc (.cells #[.int .i64 16, .int .i64 17, .int .i64 18, .int .i64 0, .int .i64 8, .int .i64 7, .int .i64 9, .int .i64 6, .int .i64 10, .int .i64 5, .int .i64 11, .int .i64 4, .int .i64 12, .int .i64 3, .int .i64 13, .int .i64 2, .int .i64 14, .int .i64 1, .int .i64 15] 3) = wn at HGC HMC c5b ⊢
      go_loopw [9] (fun i wr => i = .int .i64 0 ∧ wr = wn) (fun _ _ => 0)
      case atStart => exact ⟨rfl, rfl⟩
      case round =>
        obtain ⟨rfl, rfl⟩ := hrel
        go_wp2_with fail
        all_goals
          go_ret2
          exact .inr ⟨k3, s3, v3, HXE.out, hkb, HGC.out, HMC.out, _, _, rfl⟩
    have dq2 : decide (30 < (lb : Int)) = false := decide_eq_false (by omega)
    go_wp2_with fail
    refine (rwrong_no _ _ w3 HGB.out (.inl hkb)).mono ?_
    rintro e wz ⟨rfl, rfl⟩
    go_wp2_with (with_reducible refine makeI _ rfl _ _ rfl 19 rfl rfl (by omega) ?_)
    intro wm rm gm sm
    have hgl := gm.trans (World.grownBy_alloc wm (.cells #[.int .i64 16, .int .i64 17, .int .i64 18, .int .i64 0, .int .i64 8, .int .i64 7, .int .i64 9, .int .i64 6, .int .i64 10, .int .i64 5, .int .i64 11, .int .i64 4, .int .i64 12, .int .i64 3, .int .i64 13, .int .i64 2, .int .i64 14, .int .i64 1, .int .i64 15] 3) none)
    have HGC := Lib.hid (HGB.out.still hgl)
    have HMC := Lib.hid (HMB.out.trans (Moves.grown (g := h) (r := h) v3 hgl (.inl rfl)))
    have c5b := HGC.out.cell5
    have eb1 : ((k3 : Int) == 0) = false := by rw [beq_eq_false_iff_ne]; omega
    have eb2 : ¬ (k3 : Int) = 0 := by omega
    clear rm gm sm hgl
    go_wp2_with fail
    generalize wm.alloc (.cells #[.int .i64 16, .int .i64 17, .int .i64 18, .int .i64 0, .int .i64 8, .int .i64 7, .int .i64 9, .int .i64 6, .int .i64 10, .int .i64 5, .int .i64 11, .int .i64 4, .int .i64 12, .int .i64 3, .int .i64 13, .int .i64 2, .int .i64 14, .int .i64 1, .int .i64 15] 3) = wn at HGC HMC c5b ⊢
    go_loopw [9] (fun i wr => i = .int .i64 0 ∧ wr = wn) (fun _ _ => 0)
    case atStart => exact ⟨rfl, rfl⟩
    case round =>
      obtain ⟨rfl, rfl⟩ := hrel
      go_wp2_with fail
      all_goals
        go_ret2
        exact .inr ⟨k3, s3, v3, HXE.out, hkb, HGC.out, HMC.out, _, _, rfl⟩
  obtain rfl := he3
  have hd16 : d < 16 := numX_lt HG2.out.bin hx3
  have hX3 := bind_go hx3 HX2.out
  have HG3 := Lib.hid hg3
  have HM3 := Lib.hid (HM2.out.trans hm3)
  have HN3 := Lib.hid (num_ok hx3)
  obtain ⟨lc, hlc⟩ : ∃ lc, 4 + d = lc := ⟨_, rfl⟩
  have ec : 4 + (d : Int) = (lc : Int) := by omega
  clear hg3 hm3 hx3 HG2 HM2 HX2 eb
  by_cases hbad : 286 < 257 + a ∨ 30 < 1 + b
  · rw [if_pos hbad] at hX3
    have HXE : RowKit.Hid (X = .error 2) := Lib.hid hX3.symm
    have hkb : 2 ≠ 0 := by decide
    clear hX3
    by_cases h1 : 286 < la
    · have d1 : decide (286 < (la : Int)) = true := decide_eq_true (by omega)
      go_wp2_with fail
      refine (rwrong_yes _ (by first | rfl | (simp; omega)) 2 _ rfl w3 HG3.out).mono ?_
      rintro e w4 ⟨rfl, hg4, hm4, _⟩
      have HGB := Lib.hid hg4
      have HMB := Lib.hid (HM3.out.trans hm4)
      clear hg4 hm4 ec d1
      go_wp2_with (with_reducible refine makeI _ rfl _ _ rfl 19 rfl rfl (by omega) ?_)
      intro wm rm gm sm
      have hgl := gm.trans (World.grownBy_alloc wm (.cells #[.int .i64 16, .int .i64 17, .int .i64 18, .int .i64 0, .int .i64 8, .int .i64 7, .int .i64 9, .int .i64 6, .int .i64 10, .int .i64 5, .int .i64 11, .int .i64 4, .int .i64 12, .int .i64 3, .int .i64 13, .int .i64 2, .int .i64 14, .int .i64 1, .int .i64 15] 3) none)
      have HGC := Lib.hid (HGB.out.still hgl)
      have HMC := Lib.hid (HMB.out.trans (Moves.grown (g := h) (r := h) v3 hgl (.inl rfl)))
      have c5b := HGC.out.cell5
      have eb1 : ((2 : Int) == 0) = false := by rw [beq_eq_false_iff_ne]; omega
      have eb2 : ¬ (2 : Int) = 0 := by omega
      clear rm gm sm hgl
      go_wp2_with fail
      generalize wm.alloc (.cells #[.int .i64 16, .int .i64 17, .int .i64 18, .int .i64 0, .int .i64 8, .int .i64 7, .int .i64 9, .int .i64 6, .int .i64 10, .int .i64 5, .int .i64 11, .int .i64 4, .int .i64 12, .int .i64 3, .int .i64 13, .int .i64 2, .int .i64 14, .int .i64 1, .int .i64 15] 3) = wn at HGC HMC c5b ⊢
      go_loopw [9] (fun i wr => i = .int .i64 0 ∧ wr = wn) (fun _ _ => 0)
      case atStart => exact ⟨rfl, rfl⟩
      case round =>
        obtain ⟨rfl, rfl⟩ := hrel
        go_wp2_with fail
        all_goals
          go_ret2
          exact .inr ⟨2, s3, v3, HXE.out, hkb, HGC.out, HMC.out, _, _, rfl⟩
    · have d1 : decide (286 < (la : Int)) = false := decide_eq_false (by omega)
      have d2 : decide (30 < (lb : Int)) = true := decide_eq_true (by omega)
      go_wp2_with fail
      refine (rwrong_yes _ (by first | rfl | (simp; omega)) 2 _ rfl w3 HG3.out).mono ?_
      rintro e w4 ⟨rfl, hg4, hm4, _⟩
      have HGB := Lib.hid hg4
      have HMB := Lib.hid (HM3.out.trans hm4)
      clear hg4 hm4 ec d1 d2
      go_wp2_with (with_reducible refine makeI _ rfl _ _ rfl 19 rfl rfl (by omega) ?_)
      intro wm rm gm sm
      have hgl := gm.trans (World.grownBy_alloc wm (.cells #[.int .i64 16, .int .i64 17, .int .i64 18, .int .i64 0, .int .i64 8, .int .i64 7, .int .i64 9, .int .i64 6, .int .i64 10, .int .i64 5, .int .i64 11, .int .i64 4, .int .i64 12, .int .i64 3, .int .i64 13, .int .i64 2, .int .i64 14, .int .i64 1, .int .i64 15] 3) none)
      have HGC := Lib.hid (HGB.out.still hgl)
      have HMC := Lib.hid (HMB.out.trans (Moves.grown (g := h) (r := h) v3 hgl (.inl rfl)))
      have c5b := HGC.out.cell5
      have eb1 : ((2 : Int) == 0) = false := by rw [beq_eq_false_iff_ne]; omega
      have eb2 : ¬ (2 : Int) = 0 := by omega
      clear rm gm sm hgl
      go_wp2_with fail
      generalize wm.alloc (.cells #[.int .i64 16, .int .i64 17, .int .i64 18, .int .i64 0, .int .i64 8, .int .i64 7, .int .i64 9, .int .i64 6, .int .i64 10, .int .i64 5, .int .i64 11, .int .i64 4, .int .i64 12, .int .i64 3, .int .i64 13, .int .i64 2, .int .i64 14, .int .i64 1, .int .i64 15] 3) = wn at HGC HMC c5b ⊢
      go_loopw [9] (fun i wr => i = .int .i64 0 ∧ wr = wn) (fun _ _ => 0)
      case atStart => exact ⟨rfl, rfl⟩
      case round =>
        obtain ⟨rfl, rfl⟩ := hrel
        go_wp2_with fail
        all_goals
          go_ret2
          exact .inr ⟨2, s3, v3, HXE.out, hkb, HGC.out, HMC.out, _, _, rfl⟩
  rw [if_neg hbad, hlc] at hX3
  have HX3 := Lib.hid hX3
  have d1 : decide (286 < (la : Int)) = false := decide_eq_false (by omega)
  have d2 : decide (30 < (lb : Int)) = false := decide_eq_false (by omega)
  clear hX3
  go_wp2_with fail
  refine (rwrong_no _ _ w3 HG3.out (.inr (by first | rfl | (simp; omega)))).mono ?_
  rintro e wz ⟨rfl, rfl⟩
  clear ec d1 d2
  go_wp2_with (with_reducible refine makeI _ rfl _ _ rfl 19 rfl rfl (by omega) ?_)
  intro wm rm gm sm
  have hpr : Row (wm.alloc (.cells #[.int .i64 16, .int .i64 17, .int .i64 18, .int .i64 0, .int .i64 8, .int .i64 7, .int .i64 9, .int .i64 6, .int .i64 10, .int .i64 5, .int .i64 11, .int .i64 4, .int .i64 12, .int .i64 3, .int .i64 13, .int .i64 2, .int .i64 14, .int .i64 1, .int .i64 15] 3)) wm.heap.size plc 3 := heap_alloc_new wm _
  have hgl := World.grownBy_alloc wm (.cells #[.int .i64 16, .int .i64 17, .int .i64 18, .int .i64 0, .int .i64 8, .int .i64 7, .int .i64 9, .int .i64 6, .int .i64 10, .int .i64 5, .int .i64 11, .int .i64 4, .int .i64 12, .int .i64 3, .int .i64 13, .int .i64 2, .int .i64 14, .int .i64 1, .int .i64 15] 3) none
  have HI : RowKit.Hid (RHelpI w (wm.alloc (.cells #[.int .i64 16, .int .i64 17, .int .i64 18, .int .i64 0, .int .i64 8, .int .i64 7, .int .i64 9, .int .i64 6, .int .i64 10, .int .i64 5, .int .i64 11, .int .i64 4, .int .i64 12, .int .i64 3, .int .i64 13, .int .i64 2, .int .i64 14, .int .i64 1, .int .i64 15] 3)) h A N c M lim w3.heap.size wm.heap.size lc a b v v3 X 0 s3 (List.replicate 19 0) (fun _ => 0)) := Lib.hid ⟨HG3.out.still (gm.trans hgl), ⟨HM3.out.trans (Moves.grown (g := h) (r := h) v3 (gm.trans hgl) (.inl rfl)), rm.grown hgl (by simp), hpr, fun e => by have := (HG3.out.ownLt e.symm).2; omega, fun e => by have := (HG3.out.ownLt e.symm).2; omega, HM3.out.size, by rw [sm]; have := HM3.out.size; omega, by rw [sm]; omega, HSZ.out⟩, by simp, fun x hx => by rw [List.eq_of_mem_replicate hx]; decide, fun i hi => by rw [List.getD_eq_getElem?_getD, List.getElem?_replicate, if_pos hi]; rfl, by have := HN1.out; have := HN2.out; have := HN3.out; have := HS0.out.1; omega, HX3.out⟩
  obtain ⟨tt, htt⟩ : ∃ tt, la + lb = tt := ⟨_, rfl⟩
  have et : (la : Int) + (lb : Int) = (tt : Int) := by omega
  have HTK := Lib.hid (fun hl => toldK_eq (a := a) (b := b) (la := la) (tt := tt) hla (by omega) hl)
  have ht320 : tt ≤ 320 := by omega
  have hla0 : 257 ≤ la := by omega
  have hla1 : la < tt := by omega
  have hlc19 : lc ≤ 19 := by omega
  have HTT := Lib.hid htt
  clear rm gm sm hpr hgl hlc hla hlb htt ha hb hd16 hbad HX3 HM3 HG3 HN1 HN2 HN3
  go_wp2_with fail
  generalize wm.alloc (.cells #[.int .i64 16, .int .i64 17, .int .i64 18, .int .i64 0, .int .i64 8, .int .i64 7, .int .i64 9, .int .i64 6, .int .i64 10, .int .i64 5, .int .i64 11, .int .i64 4, .int .i64 12, .int .i64 3, .int .i64 13, .int .i64 2, .int .i64 14, .int .i64 1, .int .i64 15] 3) = wn at HI ⊢
  generalize wm.heap.size = pl at HI ⊢
  generalize w3.heap.size = q at HI ⊢
  go_loopw [9] (fun i wr => ∃ (j : Nat) (v' : Value) (s' : Sx), i = .int .i64 (j : Int) ∧ j ≤ lc ∧ ((∃ hl f, RHelpI w wr h A N c M lim q pl lc a b v v' X j s' hl f) ∨ (∃ k, k ≠ 0 ∧ X = .error k ∧ RS wr h A N c M lim v' s' k ∧ Moves w wr h h v v'))) (fun i _ => lc - (intOf i).toNat)
  case atStart => exact ⟨0, v3, s3, rfl, Nat.zero_le _, .inl ⟨_, _, HI.out⟩⟩
  case round =>
    clear HI
    obtain ⟨j, v', s', rfl, hj, ⟨hl, f, hI⟩ | ⟨k, hk, hXE, hgb, hmb⟩⟩ := hrel
    rotate_left
    · have c5b := hgb.cell5
      have eb1 : ((k : Int) == 0) = false := by rw [beq_eq_false_iff_ne]; omega
      have eb2 : ¬ (k : Int) = 0 := by omega
      have HGB := Lib.hid hgb
      have HMB := Lib.hid hmb
      have HXE := Lib.hid hXE
      clear hgb hmb hXE
      by_cases hlt : j < lc
      · have hd : decide ((j : Int) < (lc : Int)) = true := decide_eq_true (by omega)
        go_wp2_with fail
        go_ret2
        exact .inr ⟨k, s', v', HXE.out, hk, HGB.out, HMB.out, _, _, rfl⟩
      · have hd : decide ((j : Int) < (lc : Int)) = false := decide_eq_false (by omega)
        go_wp2_with fail
        go_ret2
        exact .inr ⟨k, s', v', HXE.out, hk, HGB.out, HMB.out, _, _, rfl⟩
    by_cases hlt : j < lc
    · have hd : decide ((j : Int) < (lc : Int)) = true := decide_eq_true (by omega)
      have c5 : wr.cell? ⟨h, 5, none⟩ = some (.int .i64 0) := hI.rs.cell5
      have c4 := hI.rs.cell4
      have f4 := hI.rs.row.thawed 4
      have hst : s'.steps ≤ 8000000 := by have := hI.rs.le; have := hI.rs.nn; have := hI.sp; omega
      have hs1 := hI.rs.set 4 (.int .i64 ((s'.steps : Int) + 1)) (s' := ⟨s'.pos, s'.out, s'.steps + 1⟩) (bad' := 0) (by simp) hI.rs.le rfl (show s'.steps + 1 ≤ s'.pos + 1 by have := hI.sp; omega)
      have hmd := hs1.2.trans (Moves.grown (g := h) (r := h) v' (drew_grown (wr.setCell ⟨h, 4, none⟩ (.int .i64 ((s'.steps : Int) + 1)))) (.inl rfl))
      have HGd := Lib.hid (hs1.1.still (drew_grown _))
      have HRd := Lib.hid (hI.hr.step hmd)
      obtain ⟨p, hp⟩ : ∃ p, places.getD j 0 = p := ⟨_, rfl⟩
      have hp19 : p < 19 := by rw [← hp]; exact places_lt j (by omega)
      have HP := Lib.hid hp
      have cT := HRd.out.at_ (show j < 19 by omega) hp
      have HI := Lib.hid hI
      have hj19 : j < 19 := by omega
      have hj19i : (j : Int) < 19 := by omega
      have hp19i : (p : Int) < 19 := by omega
      clear hI hp hs1 hmd
      go_wp2_with fail
      refine wp_region_any (by kernel_rfl) ?_
      change wpAny _ _ _ _ _ _ _ (World.drew _)
      generalize (wr.setCell ⟨h, 4, none⟩ (.int .i64 ((s'.steps : Int) + 1))).drew = wd at HGd HRd cT ⊢
      clear c5 c4 f4 hst
      refine wpAny_take (i := 0) (v := ?_) rfl (by kernel_rfl) (by kernel_rfl) (by kernel_rfl) (fun _ _ _ h => h) (Or.inl ⟨by rfl, ?_⟩) ?_
      rotate_left
      · intro w
        go_simp
        try with_reducible rfl
      refine wpAny_take (i := 1) (v := ?_) rfl (by kernel_rfl) (by kernel_rfl) (by kernel_rfl) (fun _ _ _ h => h) (Or.inl ⟨by rfl, ?_⟩) ?_
      rotate_left
      · intro w
        go_simp
        try with_reducible rfl
      refine wpAny_take (i := 2) (v := ?_) rfl (by kernel_rfl) (by kernel_rfl) (by kernel_rfl) (fun _ _ _ h => h) (Or.inl ⟨by rfl, ?_⟩) ?_
      rotate_left
      · intro w
        go_simp
        try with_reducible rfl
      refine wpAny_take (i := 3) (v := ?_) rfl (by kernel_rfl) (by kernel_rfl) (by kernel_rfl) (fun _ _ _ h => h) (Or.inl ⟨by rfl, ?_⟩) ?_
      rotate_left
      · intro w
        go_simp
        try with_reducible rfl
      refine wpAny_take (i := 5) (v := ?_) rfl (by kernel_rfl) (by kernel_rfl) (by kernel_rfl) (fun _ _ _ h => h) (Or.inl ⟨by rfl, ?_⟩) ?_
      rotate_left
      · intro w
        go_simp
        try with_reducible rfl
      refine wpAny_ready (rs := [4, 6]) (by kernel_rfl) (by simp) ?_
      refine AllReady.cons rfl (fun K hK => ?_) (AllReady.cons rfl (fun K hK => ?_) AllReady.nil)
      · go_simp
        refine hK _ _ ?_
        clear hK K
        refine wpAny_ready (rs := [6]) (by kernel_rfl) (by simp) ?_
        refine AllReady.cons rfl (fun K hK => ?_) AllReady.nil
        go_simp
        go_wp2_with fail
        refine (rnum_o 3 (by omega) wd HGd.out).mono ?_
        rintro e w2 ⟨y, s2, v2, bad2, rfl, hg2, hm2, hy, hx2⟩
        have hr2 := HRd.out.step hm2
        have hy8 : y < 8 := hy
        have cT2 := hr2.at_ hj19 HP.out
        have cq := hr2.row.ia hp19
        have fq := hr2.row.thawed p
        have HG2 := Lib.hid hg2
        have HR2 := Lib.hid hr2
        have HX2 := Lib.hid hx2
        clear hg2 hm2 hy hx2 hr2
        go_simp
        refine hK _ _ ?_
        clear hK K
        refine wpAny_take (i := 7) (v := ?_) rfl (by kernel_rfl) (by kernel_rfl) (by kernel_rfl) (fun _ _ _ h => h) (Or.inl ⟨by rfl, ?_⟩) ?_
        rotate_left
        · intro w
          go_simp
          try with_reducible rfl
        refine wpAny_ready (rs := [8]) (by kernel_rfl) (by simp) ?_
        refine AllReady.cons rfl (fun K hK => ?_) AllReady.nil
        go_simp
        refine hK _ _ ?_
        clear hK K
        refine wpAny_done (by kernel_rfl) ?_ _
        have HG3 := Lib.hid (HR2.out.rs HG2.out p (.int .i64 (y : Int)))
        have HR3 := Lib.hid (HR2.out.put p y)
        clear cq fq cT2
        generalize w2.setCell ⟨q, p, none⟩ (.int .i64 (y : Int)) = w3b at HG3 HR3 ⊢
        go_wp2_with fail
        go_roundw
        case rel =>
          refine ⟨j + 1, v2, s2, by simp, by omega, ?_⟩
          rcases HX2.out with ⟨rfl, hx2⟩ | ⟨hb2, hx2⟩
          · refine .inl ⟨hl.set p y, upd f p y, HG3.out, HR3.out, by rw [List.length_set]; exact HI.out.len, low_set HI.out.low p (by omega), fun i hi => ?_, ?_, ?_⟩
            · unfold upd
              rw [List.getD_eq_getElem?_getD, List.getElem?_set]
              by_cases e : i = p
              · subst e; rw [if_pos rfl, if_pos rfl, if_pos (by rw [HI.out.len]; exact hp19)]; rfl
              · rw [if_neg e, if_neg (Ne.symm e), HI.out.at_ i hi, List.getD_eq_getElem?_getD]
            · have h1 := num_ok hx2
              have h2 := HI.out.sp
              rw [h1.1, h1.2.2]
              show s'.steps + 1 ≤ s'.pos + 3
              omega
            · rw [← HI.out.hx, show lc - j = (lc - (j + 1)) + 1 by omega, ← HP.out]
              exact (bind_same (bind_same (ok_bind (f := stepX) rfl (ok_bind hx2 rfl)))).symm
          · refine .inr ⟨bad2, hb2, ?_, HG3.out, HR3.out.mv⟩
            rw [← HI.out.hx, show lc - j = (lc - (j + 1)) + 1 by omega]
            exact err_bind (err_bind (ok_bind (f := stepX) rfl (err_bind hx2)))
        case measure => simp [intOf]; omega
      · go_simp
        go_wp2_with fail
        refine (rnum_o 3 (by omega) wd HGd.out).mono ?_
        rintro e w2 ⟨y, s2, v2, bad2, rfl, hg2, hm2, hy, hx2⟩
        have hr2 := HRd.out.step hm2
        have hy8 : y < 8 := hy
        have cT2 := hr2.at_ hj19 HP.out
        have cq := hr2.row.ia hp19
        have fq := hr2.row.thawed p
        have HG2 := Lib.hid hg2
        have HR2 := Lib.hid hr2
        have HX2 := Lib.hid hx2
        clear hg2 hm2 hy hx2 hr2
        go_simp
        refine hK _ _ ?_
        clear hK K
        refine wpAny_ready (rs := [4]) (by kernel_rfl) (by simp) ?_
        refine AllReady.cons rfl (fun K hK => ?_) AllReady.nil
        go_simp
        refine hK _ _ ?_
        clear hK K
        refine wpAny_take (i := 7) (v := ?_) rfl (by kernel_rfl) (by kernel_rfl) (by kernel_rfl) (fun _ _ _ h => h) (Or.inl ⟨by rfl, ?_⟩) ?_
        rotate_left
        · intro w
          go_simp
          try with_reducible rfl
        refine wpAny_ready (rs := [8]) (by kernel_rfl) (by simp) ?_
        refine AllReady.cons rfl (fun K hK => ?_) AllReady.nil
        go_simp
        refine hK _ _ ?_
        clear hK K
        refine wpAny_done (by kernel_rfl) ?_ _
        have HG3 := Lib.hid (HR2.out.rs HG2.out p (.int .i64 (y : Int)))
        have HR3 := Lib.hid (HR2.out.put p y)
        clear cq fq cT2
        generalize w2.setCell ⟨q, p, none⟩ (.int .i64 (y : Int)) = w3b at HG3 HR3 ⊢
        go_wp2_with fail
        go_roundw
        case rel =>
          refine ⟨j + 1, v2, s2, by simp, by omega, ?_⟩
          rcases HX2.out with ⟨rfl, hx2⟩ | ⟨hb2, hx2⟩
          · refine .inl ⟨hl.set p y, upd f p y, HG3.out, HR3.out, by rw [List.length_set]; exact HI.out.len, low_set HI.out.low p (by omega), fun i hi => ?_, ?_, ?_⟩
            · unfold upd
              rw [List.getD_eq_getElem?_getD, List.getElem?_set]
              by_cases e : i = p
              · subst e; rw [if_pos rfl, if_pos rfl, if_pos (by rw [HI.out.len]; exact hp19)]; rfl
              · rw [if_neg e, if_neg (Ne.symm e), HI.out.at_ i hi, List.getD_eq_getElem?_getD]
            · have h1 := num_ok hx2
              have h2 := HI.out.sp
              rw [h1.1, h1.2.2]
              show s'.steps + 1 ≤ s'.pos + 3
              omega
            · rw [← HI.out.hx, show lc - j = (lc - (j + 1)) + 1 by omega, ← HP.out]
              exact (bind_same (bind_same (ok_bind (f := stepX) rfl (ok_bind hx2 rfl)))).symm
          · refine .inr ⟨bad2, hb2, ?_, HG3.out, HR3.out.mv⟩
            rw [← HI.out.hx, show lc - j = (lc - (j + 1)) + 1 by omega]
            exact err_bind (err_bind (ok_bind (f := stepX) rfl (err_bind hx2)))
        case measure => simp [intOf]; omega
    · obtain rfl : j = lc := by omega
      have hd : decide ((j : Int) < (j : Int)) = false := decide_eq_false (by omega)
      have c5 : wr.cell? ⟨h, 5, none⟩ = some (.int .i64 0) := hI.rs.cell5
      have HI := Lib.hid hI
      have HRD : RowKit.Hid (Rd wr wr.heap.size (some ⟨q, 0, none⟩) 19 (is (ints64 hl))) := Lib.hid (by rw [← ia_ints hI.len hI.at_]; exact hI.hr.row.rdI hI.hr.row.lt)
      have HXX : RowKit.Hid (bindX (helperK hl) (toldK a b) M lim s' = X) := Lib.hid (by rw [← hI.hx, Nat.sub_self]; rfl)
      clear hI
      go_wp2_with fail
      refine (rcode_any (some ⟨q, 0, none⟩) 19 19 hl false wr HI.out.rs HRD.out (by rw [HI.out.len]; decide) HI.out.low).mono ?_
      rintro e w4 ⟨hm4, hb4, ⟨hrt, hg4, pc, rfl, hc4⟩ | ⟨hno, hg4, rfl⟩⟩
      rotate_left
      · have HXE : RowKit.Hid (X = .error 2) := Lib.hid (by rw [← HXX.out]; refine err_bind ?_; unfold helperK; rw [if_pos hno]; rfl)
        have hg4' : RS w4 h A N c M lim v' s' 2 := hg4
        have hgl := World.grownBy_alloc w4 (.cells #[] 3) none
        have HG5 := Lib.hid (hg4'.still hgl)
        have HM5 := Lib.hid ((HI.out.hr.mv.trans hm4).trans (Moves.grown (g := h) (r := h) v' hgl (.inl rfl)))
        have c5b : (w4.alloc (.cells #[] 3)).cell? ⟨h, 5, none⟩ = some (.int .i64 2) := HG5.out.cell5
        clear hg4 hg4' hm4 hb4 hno hgl c5
        go_wp2_with fail
        generalize w4.alloc (.cells #[] 3) = wn2 at HG5 HM5 c5b ⊢
        go_loopw [11] (fun _ wr => wr = wn2) (fun _ _ => 0)
        case atStart => rfl
        case round =>
          obtain rfl := hrel
          go_wp2_with fail
          go_ret2
          exact .inr ⟨2, s', v', HXE.out, by decide, HG5.out, HM5.out, _, _, rfl⟩
      have H19 := Lib.hid HI.out.len
      rw [H19.out]
      have HXK : RowKit.Hid (bindX (lensX hl tt (tt + 1) []) (toldL la) M lim s' = X) := Lib.hid (by
        rw [← HTK.out hl, ← HXX.out]
        exact (ok_bind (a := hl) (s1 := s') (by unfold helperK; rw [if_neg (by rw [hrt]; decide)]; rfl) rfl).symm)
      have hgl := World.grownBy_alloc w4 (.cells #[] 3) none
      have HL : RowKit.Hid (RLensI w (w4.alloc (.cells #[] 3)) h A N c M lim w4.heap.size pc hl v v' (.slice (some ⟨w4.heap.size, 0, none⟩) 0 0) s' [] 0) := Lib.hid ⟨hg4.still hgl, (HI.out.hr.mv.trans hm4).trans (Moves.grown (g := h) (r := h) v' hgl (.inl rfl)), OwnI.lit w4 #[] [] 0 rfl rfl (by omega), fun b hb e => by have hb2 : w4.heap.size = b := Option.some.inj hb; rw [← hb2] at e; exact Nat.lt_irrefl _ (hg4.ownLt e.symm).2, hc4.still hgl, ⟨Nat.le_trans HI.out.hr.mv.size hm4.size, hg4.lt, hc4.row.lt, HSZ.out⟩, by simp⟩
      have HSP := Lib.hid HI.out.sp
      clear hm4 hb4 hrt hg4 hc4 hgl c5 hd HI HRD HXX HTK
      go_wp2_with fail
      generalize w4.alloc (.cells #[] 3) = wn2 at HL ⊢
      generalize w4.heap.size = B at HL ⊢
      go_loopw [11] (fun u wr => ∃ (v' : Value) (s' : Sx) (ll : List Nat) (bad' : Nat), RLensI w wr h A N c M lim B pc hl v v' u s' ll bad' ∧ ((bad' = 0 ∧ s'.steps ≤ s'.pos ∧ ll.length ≤ tt ∧ Low ll ∧ ∃ F, tt - ll.length < F ∧ bindX (lensX hl tt F ll) (toldL la) M lim s' = X) ∨ (bad' ≠ 0 ∧ X = .error bad'))) (fun _ wr => measC h N wr)
      case atStart => exact ⟨v', s', [], 0, HL.out, .inl ⟨rfl, HSP.out, Nat.zero_le _, fun _ hx => (by cases hx), tt + 1, by simp, HXK.out⟩⟩
      case round =>
        clear HL HXK HSP
        obtain ⟨v1, s1, ll, bad1, hI1, ⟨rfl, hsp, hll, hlow, F, hF, hX⟩ | ⟨hb1, hXE⟩⟩ := hrel
        rotate_left
        · have c5b := hI1.rs.cell5
          have eb1 : ((bad1 : Int) == 0) = false := by rw [beq_eq_false_iff_ne]; omega
          have eb2 : ¬ (bad1 : Int) = 0 := by omega
          have HI1 := Lib.hid hI1
          have HXE := Lib.hid hXE
          clear hI1 hXE
          go_wp2_with fail
          go_ret2
          exact .inr ⟨bad1, s1, v1, HXE.out, hb1, HI1.out.rs, HI1.out.mv, _, _, rfl⟩
        obtain ⟨A2, c2, rfl⟩ := hI1.own.slice
        rw [ints_length] at hI1 ⊢
        obtain ⟨m, hm⟩ : ∃ m, ll.length = m := ⟨_, rfl⟩
        have HM := Lib.hid hm
        rw [hm] at hI1 hF hll ⊢
        obtain ⟨F1, rfl⟩ : ∃ F1, F = F1 + 1 := ⟨F - 1, by omega⟩
        have c5 : wr.cell? ⟨h, 5, none⟩ = some (.int .i64 0) := hI1.rs.cell5
        have HLOW := Lib.hid hlow
        clear hm hlow
        by_cases hlt : m < tt
        · have hd2 : decide ((m : Int) < (tt : Int)) = true := decide_eq_true (by omega)
          have HF : RowKit.Hid (tt - m ≤ F1) := Lib.hid (by omega)
          have HN : RowKit.Hid (¬ tt ≤ ll.length) := Lib.hid (by rw [HM.out]; omega)
          have c4 := hI1.rs.cell4
          have f4 := hI1.rs.row.thawed 4
          have hst : s1.steps ≤ 8000000 := by have := hI1.rs.le; have := hI1.rs.nn; omega
          have hs2 := hI1.rs.set 4 (.int .i64 ((s1.steps : Int) + 1)) (s' := ⟨s1.pos, s1.out, s1.steps + 1⟩) (bad' := 0) (by simp) hI1.rs.le rfl (show s1.steps + 1 ≤ s1.pos + 1 by omega)
          have HI2 := Lib.hid (hI1.step hs2.1 hs2.2)
          have HMZ := Lib.hid hI1.rs.meas0
          have HX1 := Lib.hid hX
          have HSP := Lib.hid hsp
          clear hI1 hs2 hX hsp hF
          go_wp2_with fail
          generalize wr.setCell ⟨h, 4, none⟩ (.int .i64 ((s1.steps : Int) + 1)) = w2 at HI2 ⊢
          clear c5 c4 f4 hst
          have HSA := Lib.hid (rsign_o pc hl w2 HI2.out.rs HI2.out.rc)
          rw [H19.out] at HSA
          refine HSA.out.mono ?_
          clear HSA
          rintro e w3 ⟨x, s3, v3, bad3, rfl, hg3, hm3, hx3⟩
          have HI3 := Lib.hid (HI2.out.step hg3 hm3)
          have HX3 := Lib.hid hx3
          have hx19 : x < 19 := by
            rcases hx3 with ⟨_, hx⟩ | ⟨_, rfl, _⟩
            · have := (sign_facts hx).1; have := H19.out; omega
            · decide
          clear hg3 hm3 hx3 HI2 hd2
          by_cases h16 : x = 16
          · subst h16
            have hsx : bad3 = 0 ∧ signX hl M lim ⟨s1.pos, s1.out, s1.steps + 1⟩ = .ok (16, s3) := by
              rcases HX3.out with hh | ⟨_, h0, _⟩
              · exact hh
              · exact absurd h0 (by decide)
            obtain ⟨rfl, hsx⟩ := hsx
            have HSX := Lib.hid hsx
            have HPF : RowKit.Hid (s1.pos < s3.pos ∧ s3.steps = s1.steps + 1) := Lib.hid ⟨(sign_facts hsx).2.1, (sign_facts hsx).2.2.2⟩
            clear hsx HX3
            by_cases hm0 : m = 0
            · subst hm0
              go_wp2_with fail
              refine (rwrong_yes _ (by first | rfl | simp) 2 _ rfl w3 HI3.out.rs).mono ?_
              rintro e w4 ⟨rfl, hg4, hm4, _⟩
              have HI4 := Lib.hid (HI3.out.step hg4 hm4)
              have c5b : w4.cell? ⟨h, 5, none⟩ = some (.int .i64 2) := hg4.cell5
              have HXE : RowKit.Hid (X = .error 2) := Lib.hid (by rw [← HX1.out]; exact err_bind (rl_no2 HN.out HSX.out (by unfold runX; rw [if_pos rfl, if_pos HM.out]; rfl)))
              clear hg4 hm4
              go_wp2_with fail
              refine (rnum_bad 2 w4 HI4.out.rs (by decide)).mono ?_
              rintro e wz ⟨rfl, rfl⟩
              go_wp2_with fail
              refine (rwrong_no _ _ w4 HI4.out.rs (.inl (by decide))).mono ?_
              rintro e wz ⟨rfl, rfl⟩
              go_wp2_with fail
              go_loopw [11, 15] (fun u i wr => u = .slice A2 0 c2 ∧ i = .int .i64 0 ∧ wr = w4) (fun _ _ _ => 0)
              case atStart => exact ⟨rfl, rfl, rfl⟩
              case round =>
                obtain ⟨rfl, rfl, rfl⟩ := hrel
                go_wp2_with fail
                go_roundw
                case rel => exact ⟨v3, s3, ll, 2, HI4.out, .inr ⟨by decide, HXE.out⟩⟩
                case measure => rw [HI4.out.rs.measB (by decide), HMZ.out]; omega
            obtain ⟨bb, oo, rfl, hbb, _⟩ := HI3.out.own.rd.2.2 (by omega)
            obtain ⟨m1, hm1⟩ : ∃ m1, m - 1 = m1 := ⟨_, rfl⟩
            obtain ⟨z, hz⟩ : ∃ z, ll.getLastD 0 = z := ⟨_, rfl⟩
            have hz15 : z ≤ 15 := by
              have h9 := last_at (ls := ll) (by rw [HM.out]; omega)
              rw [hz] at h9
              exact HLOW.out z (List.mem_of_getElem? h9)
            have HZ : RowKit.Hid ((is (ints64 ll))[m1]? = some (.int .i64 (z : Int))) := Lib.hid (by
              have h9 := last_at (ls := ll) (by rw [HM.out]; omega)
              rw [hz, HM.out, hm1] at h9
              unfold is ints64
              rw [List.getElem?_map, List.getElem?_map, h9]
              rfl)
            have e1 : (m : Int) - 1 = (m1 : Int) := by omega
            have e2 : m1 < m := by omega
            have e3 : ((m : Int) == 0) = false := by rw [beq_eq_false_iff_ne]; omega
            have e4 : ¬ (m : Int) = 0 := by omega
            have e5 : decide (0 < (m : Int)) = true := decide_eq_true (by omega)
            have HZ2 := Lib.hid hz
            clear hm1 hm0 hbb hz
            go_wp2_with fail
            refine (rwrong_no _ _ w3 HI3.out.rs (.inr (by first | rfl | simp [e4]))).mono ?_
            rintro e wz ⟨rfl, rfl⟩
            go_wp2_with fail
            refine (rnum_o 2 (by omega) w3 HI3.out.rs).mono ?_
            rintro e w4 ⟨y, s4, v4, bad4, rfl, hg4, hm4, hy, hx4⟩
            have hyk : y < 4 := hy
            have HI5 := Lib.hid (HI3.out.step hg4 hm4)
            obtain ⟨t, ht⟩ : ∃ t, 3 + y = t := ⟨_, rfl⟩
            have HT : RowKit.Hid (TailF tt la F1 t z hl ll M lim X s1 s4 bad4) := Lib.hid (by
              rcases hx4 with ⟨rfl, hx4⟩ | ⟨hb4, hx4⟩
              · have h9 := num_ok hx4
                exact tail_ok HX1.out HN.out HSX.out (by unfold runX; rw [if_pos rfl, if_neg (by rw [HM.out]; omega)]; exact ok_bind hx4 (by rw [ht]; rw [HZ2.out]; rfl)) hz15 (by rw [h9.1]; have := HPF.out; omega) (by rw [h9.1, h9.2.2]; have := HPF.out; have := HSP.out; omega)
              · exact tail_no HX1.out HN.out HSX.out hb4 (by unfold runX; rw [if_pos rfl, if_neg (by rw [HM.out]; omega)]; exact err_bind hx4))
            have et3 : 3 + (y : Int) = (t : Int) := by omega
            have ht1 : 1 ≤ t := by omega
            have ht2 : t ≤ 138 := by omega
            obtain ⟨bb2, oo2, hab, _, hc9⟩ := HI5.out.own.rd.2.2 (by omega)
            injection hab with hab
            injection hab with hb1 hb2
            subst hb1 hb2
            have cz : w4.cell? ⟨bb, oo + m1, none⟩ = some (.int .i64 (z : Int)) := hc9 m1 _ HZ.out
            clear hc9
            clear hg4 hm4 hy hx4 ht HI3 hyk
            go_wp2_with fail
            refine (rwrong_o _ 2 _ rfl w4 HI5.out.rs).mono ?_
            rintro e w6 ⟨rfl, bad6, hb6, hg6, hm6⟩
            have HI6 := Lib.hid (HI5.out.step hg6 hm6)
            have HT6 := Lib.hid (tail6 HT.out (by rw [HM.out]; first | rfl | exact decide_eq_decide.2 (by omega)) hb6)
            clear hb6 hg6 hm6 HT HI5
            go_wp2_with fail
            go_loopw [11, 15] (fun u i wr => ∃ (j : Nat), j ≤ t ∧ i = .int .i64 (j : Int) ∧ RLensI w wr h A N c M lim B pc hl v v4 u s4 (ll ++ List.replicate j z) bad6 ∧ (bad6 ≠ 0 → j = 0)) (fun _ i _ => t - (intOf i).toNat)
            case atStart => exact ⟨0, Nat.zero_le _, rfl, by simpa using HI6.out, fun _ => rfl⟩
            case round =>
              clear HI6
              obtain ⟨j, hj, rfl, hJ, hj0⟩ := hrel
              obtain ⟨A4, c4, rfl⟩ := hJ.own.slice
              rw [ints_length, List.length_append, List.length_replicate, HM.out] at hJ ⊢
              have HJ := Lib.hid hJ
              have HLJ : RowKit.Hid ((ll ++ List.replicate j z).length = m + j) := Lib.hid (by rw [List.length_append, List.length_replicate, HM.out])
              have c5 := hJ.rs.cell5
              have HJ0 := Lib.hid hj0
              clear hJ hj0
              by_cases hjt : j < t
              · have hd3 : decide ((j : Int) < ((t : Nat) : Int)) = true := decide_eq_true (by omega)
                by_cases h0 : bad6 = 0
                · subst h0
                  have c5z : wr.cell? ⟨h, 5, none⟩ = some (.int .i64 0) := c5
                  have hmt : m + t ≤ tt := by
                    rcases HT6.out with ⟨_, _, _, _, h1, _⟩ | ⟨h1, _⟩
                    · rw [HM.out] at h1; exact h1
                    · exact absurd rfl h1
                  have HB : RowKit.Hid (B ≤ wr.heap.size) := Lib.hid HJ.out.bs
                  have HS : RowKit.Hid ((ints64 (ll ++ List.replicate j z)).length + 1 ≤ 1000000) := Lib.hid (by rw [ints_length, HLJ.out]; omega)
                  clear c5
                  go_wp2_with (at_builtin; refine pushI wr rfl (.tmp 148) (.tmp 150) rfl B _ (ints64 (ll ++ List.replicate j z)) [((z : Nat) : Int)] _ 1 rfl rfl HJ.out.own rfl rfl HB.out HS.out ?_)
                  intro v6 w6 ho6 hg6 hf6
                  have he6 : ints64 (ll ++ List.replicate j z) ++ [((z : Nat) : Int)] = ints64 (ll ++ List.replicate j z ++ [z]) := by rw [ints_append (ll ++ List.replicate j z) [z]]; rfl
                  have ho7 : OwnI w6 B v6 (ints64 (ll ++ List.replicate j z ++ [z])) := by rw [← he6]; exact ho6
                  have HJ6 := Lib.hid (HJ.out.push ho7 hg6 hf6)
                  clear ho6 ho7 hg6 hf6 he6
                  go_wp2_with fail
                  go_roundw
                  case rel => exact ⟨j + 1, by omega, by simp, by rw [List.replicate_succ', ← List.append_assoc]; exact HJ6.out, fun hh => absurd rfl hh⟩
                  case measure => simp [intOf]; omega
                · have eb1 : ((bad6 : Int) == 0) = false := by rw [beq_eq_false_iff_ne]; omega
                  have eb2 : ¬ (bad6 : Int) = 0 := by omega
                  go_wp2_with fail
                  go_roundw
                  case rel =>
                    refine ⟨v4, s4, _, bad6, HJ.out, .inr ⟨h0, ?_⟩⟩
                    rcases HT6.out with ⟨h1, _⟩ | ⟨_, h1⟩
                    · exact absurd h1 h0
                    · exact h1
                  case measure => rw [HJ.out.rs.measB h0, HMZ.out]; omega
              · have hjt2 : j = t := by omega
                have hd3 : decide ((j : Int) < ((t : Nat) : Int)) = false := decide_eq_false (by omega)
                have HJT := Lib.hid hjt2
                clear hjt2
                go_wp2_with fail
                go_roundw
                case rel =>
                  rcases HT6.out with ⟨h0, hx15, hp, hs, hlt2, hX2⟩ | ⟨hb, hX2⟩
                  · subst h0
                    rw [HM.out] at hlt2
                    refine ⟨v4, s4, ll ++ List.replicate j z, 0, HJ.out, .inl ⟨rfl, hs, by rw [HLJ.out, HJT.out]; omega, fun z hz => ?_, F1, by rw [HLJ.out, HJT.out]; have := HF.out; omega, by rw [HJT.out]; exact hX2⟩⟩
                    rcases List.mem_append.1 hz with h1 | h1
                    · exact HLOW.out z h1
                    · rw [List.eq_of_mem_replicate h1]; exact hx15
                  · exact ⟨v4, s4, _, bad6, HJ.out, .inr ⟨hb, hX2⟩⟩
                case measure =>
                  rcases HT6.out with ⟨h0, hx15, hp, hs, hlt2, hX2⟩ | ⟨hb, hX2⟩
                  · subst h0
                    rw [HJ.out.rs.meas0, HMZ.out]; have := HJ.out.rs.le; omega
                  · rw [HJ.out.rs.measB hb, HMZ.out]; omega
          by_cases h17 : x = 17
          · subst h17
            have hsx : bad3 = 0 ∧ signX hl M lim ⟨s1.pos, s1.out, s1.steps + 1⟩ = .ok (17, s3) := by
              rcases HX3.out with hh | ⟨_, h0, _⟩
              · exact hh
              · exact absurd h0 (by decide)
            obtain ⟨rfl, hsx⟩ := hsx
            have HSX := Lib.hid hsx
            have HPF : RowKit.Hid (s1.pos < s3.pos ∧ s3.steps = s1.steps + 1) := Lib.hid ⟨(sign_facts hsx).2.1, (sign_facts hsx).2.2.2⟩
            clear hsx HX3
            go_wp2_with fail
            refine (rnum_o 3 (by omega) w3 HI3.out.rs).mono ?_
            rintro e w4 ⟨y, s4, v4, bad4, rfl, hg4, hm4, hy, hx4⟩
            have hyk : y < 8 := hy
            have HI5 := Lib.hid (HI3.out.step hg4 hm4)
            obtain ⟨t, ht⟩ : ∃ t, 3 + y = t := ⟨_, rfl⟩
            have HT : RowKit.Hid (TailF tt la F1 t 0 hl ll M lim X s1 s4 bad4) := Lib.hid (by
              rcases hx4 with ⟨rfl, hx4⟩ | ⟨hb4, hx4⟩
              · have h9 := num_ok hx4
                exact tail_ok HX1.out HN.out HSX.out (by unfold runX; rw [if_neg (by decide), if_pos rfl]; exact ok_bind hx4 (by rw [ht]; rfl)) (by decide) (by rw [h9.1]; have := HPF.out; omega) (by rw [h9.1, h9.2.2]; have := HPF.out; have := HSP.out; omega)
              · exact tail_no HX1.out HN.out HSX.out hb4 (by unfold runX; rw [if_neg (by decide), if_pos rfl]; exact err_bind hx4))
            have et3 : 3 + (y : Int) = (t : Int) := by omega
            have ht1 : 1 ≤ t := by omega
            have ht2 : t ≤ 138 := by omega
            clear hg4 hm4 hy hx4 ht HI3 hyk
            go_wp2_with fail
            refine (rwrong_o _ 2 _ rfl w4 HI5.out.rs).mono ?_
            rintro e w6 ⟨rfl, bad6, hb6, hg6, hm6⟩
            have HI6 := Lib.hid (HI5.out.step hg6 hm6)
            have HT6 := Lib.hid (tail6 HT.out (by rw [HM.out]; first | rfl | exact decide_eq_decide.2 (by omega)) hb6)
            clear hb6 hg6 hm6 HT HI5
            go_wp2_with fail
            go_loopw [11, 15] (fun u i wr => ∃ (j : Nat), j ≤ t ∧ i = .int .i64 (j : Int) ∧ RLensI w wr h A N c M lim B pc hl v v4 u s4 (ll ++ List.replicate j 0) bad6 ∧ (bad6 ≠ 0 → j = 0)) (fun _ i _ => t - (intOf i).toNat)
            case atStart => exact ⟨0, Nat.zero_le _, rfl, by simpa using HI6.out, fun _ => rfl⟩
            case round =>
              clear HI6
              obtain ⟨j, hj, rfl, hJ, hj0⟩ := hrel
              obtain ⟨A4, c4, rfl⟩ := hJ.own.slice
              rw [ints_length, List.length_append, List.length_replicate, HM.out] at hJ ⊢
              have HJ := Lib.hid hJ
              have HLJ : RowKit.Hid ((ll ++ List.replicate j 0).length = m + j) := Lib.hid (by rw [List.length_append, List.length_replicate, HM.out])
              have c5 := hJ.rs.cell5
              have HJ0 := Lib.hid hj0
              clear hJ hj0
              by_cases hjt : j < t
              · have hd3 : decide ((j : Int) < ((t : Nat) : Int)) = true := decide_eq_true (by omega)
                by_cases h0 : bad6 = 0
                · subst h0
                  have c5z : wr.cell? ⟨h, 5, none⟩ = some (.int .i64 0) := c5
                  have hmt : m + t ≤ tt := by
                    rcases HT6.out with ⟨_, _, _, _, h1, _⟩ | ⟨h1, _⟩
                    · rw [HM.out] at h1; exact h1
                    · exact absurd rfl h1
                  have HB : RowKit.Hid (B ≤ wr.heap.size) := Lib.hid HJ.out.bs
                  have HS : RowKit.Hid ((ints64 (ll ++ List.replicate j 0)).length + 1 ≤ 1000000) := Lib.hid (by rw [ints_length, HLJ.out]; omega)
                  clear c5
                  go_wp2_with (at_builtin; refine pushI wr rfl (.tmp 148) (.tmp 150) rfl B _ (ints64 (ll ++ List.replicate j 0)) [((0 : Nat) : Int)] _ 1 rfl rfl HJ.out.own rfl rfl HB.out HS.out ?_)
                  intro v6 w6 ho6 hg6 hf6
                  have he6 : ints64 (ll ++ List.replicate j 0) ++ [((0 : Nat) : Int)] = ints64 (ll ++ List.replicate j 0 ++ [0]) := by rw [ints_append (ll ++ List.replicate j 0) [0]]; rfl
                  have ho7 : OwnI w6 B v6 (ints64 (ll ++ List.replicate j 0 ++ [0])) := by rw [← he6]; exact ho6
                  have HJ6 := Lib.hid (HJ.out.push ho7 hg6 hf6)
                  clear ho6 ho7 hg6 hf6 he6
                  go_wp2_with fail
                  go_roundw
                  case rel => exact ⟨j + 1, by omega, by simp, by rw [List.replicate_succ', ← List.append_assoc]; exact HJ6.out, fun hh => absurd rfl hh⟩
                  case measure => simp [intOf]; omega
                · have eb1 : ((bad6 : Int) == 0) = false := by rw [beq_eq_false_iff_ne]; omega
                  have eb2 : ¬ (bad6 : Int) = 0 := by omega
                  go_wp2_with fail
                  go_roundw
                  case rel =>
                    refine ⟨v4, s4, _, bad6, HJ.out, .inr ⟨h0, ?_⟩⟩
                    rcases HT6.out with ⟨h1, _⟩ | ⟨_, h1⟩
                    · exact absurd h1 h0
                    · exact h1
                  case measure => rw [HJ.out.rs.measB h0, HMZ.out]; omega
              · have hjt2 : j = t := by omega
                have hd3 : decide ((j : Int) < ((t : Nat) : Int)) = false := decide_eq_false (by omega)
                have HJT := Lib.hid hjt2
                clear hjt2
                go_wp2_with fail
                go_roundw
                case rel =>
                  rcases HT6.out with ⟨h0, hx15, hp, hs, hlt2, hX2⟩ | ⟨hb, hX2⟩
                  · subst h0
                    rw [HM.out] at hlt2
                    refine ⟨v4, s4, ll ++ List.replicate j 0, 0, HJ.out, .inl ⟨rfl, hs, by rw [HLJ.out, HJT.out]; omega, fun z hz => ?_, F1, by rw [HLJ.out, HJT.out]; have := HF.out; omega, by rw [HJT.out]; exact hX2⟩⟩
                    rcases List.mem_append.1 hz with h1 | h1
                    · exact HLOW.out z h1
                    · rw [List.eq_of_mem_replicate h1]; exact hx15
                  · exact ⟨v4, s4, _, bad6, HJ.out, .inr ⟨hb, hX2⟩⟩
                case measure =>
                  rcases HT6.out with ⟨h0, hx15, hp, hs, hlt2, hX2⟩ | ⟨hb, hX2⟩
                  · subst h0
                    rw [HJ.out.rs.meas0, HMZ.out]; have := HJ.out.rs.le; omega
                  · rw [HJ.out.rs.measB hb, HMZ.out]; omega
          by_cases h18 : x = 18
          · subst h18
            have hsx : bad3 = 0 ∧ signX hl M lim ⟨s1.pos, s1.out, s1.steps + 1⟩ = .ok (18, s3) := by
              rcases HX3.out with hh | ⟨_, h0, _⟩
              · exact hh
              · exact absurd h0 (by decide)
            obtain ⟨rfl, hsx⟩ := hsx
            have HSX := Lib.hid hsx
            have HPF : RowKit.Hid (s1.pos < s3.pos ∧ s3.steps = s1.steps + 1) := Lib.hid ⟨(sign_facts hsx).2.1, (sign_facts hsx).2.2.2⟩
            clear hsx HX3
            go_wp2_with fail
            refine (rnum_o 7 (by omega) w3 HI3.out.rs).mono ?_
            rintro e w4 ⟨y, s4, v4, bad4, rfl, hg4, hm4, hy, hx4⟩
            have hyk : y < 128 := hy
            have HI5 := Lib.hid (HI3.out.step hg4 hm4)
            obtain ⟨t, ht⟩ : ∃ t, 11 + y = t := ⟨_, rfl⟩
            have HT : RowKit.Hid (TailF tt la F1 t 0 hl ll M lim X s1 s4 bad4) := Lib.hid (by
              rcases hx4 with ⟨rfl, hx4⟩ | ⟨hb4, hx4⟩
              · have h9 := num_ok hx4
                exact tail_ok HX1.out HN.out HSX.out (by unfold runX; rw [if_neg (by decide), if_neg (by decide), if_pos rfl]; exact ok_bind hx4 (by rw [ht]; rfl)) (by decide) (by rw [h9.1]; have := HPF.out; omega) (by rw [h9.1, h9.2.2]; have := HPF.out; have := HSP.out; omega)
              · exact tail_no HX1.out HN.out HSX.out hb4 (by unfold runX; rw [if_neg (by decide), if_neg (by decide), if_pos rfl]; exact err_bind hx4))
            have et3 : 11 + (y : Int) = (t : Int) := by omega
            have ht1 : 1 ≤ t := by omega
            have ht2 : t ≤ 138 := by omega
            clear hg4 hm4 hy hx4 ht HI3 hyk
            go_wp2_with fail
            refine (rwrong_o _ 2 _ rfl w4 HI5.out.rs).mono ?_
            rintro e w6 ⟨rfl, bad6, hb6, hg6, hm6⟩
            have HI6 := Lib.hid (HI5.out.step hg6 hm6)
            have HT6 := Lib.hid (tail6 HT.out (by rw [HM.out]; first | rfl | exact decide_eq_decide.2 (by omega)) hb6)
            clear hb6 hg6 hm6 HT HI5
            go_wp2_with fail
            go_loopw [11, 15] (fun u i wr => ∃ (j : Nat), j ≤ t ∧ i = .int .i64 (j : Int) ∧ RLensI w wr h A N c M lim B pc hl v v4 u s4 (ll ++ List.replicate j 0) bad6 ∧ (bad6 ≠ 0 → j = 0)) (fun _ i _ => t - (intOf i).toNat)
            case atStart => exact ⟨0, Nat.zero_le _, rfl, by simpa using HI6.out, fun _ => rfl⟩
            case round =>
              clear HI6
              obtain ⟨j, hj, rfl, hJ, hj0⟩ := hrel
              obtain ⟨A4, c4, rfl⟩ := hJ.own.slice
              rw [ints_length, List.length_append, List.length_replicate, HM.out] at hJ ⊢
              have HJ := Lib.hid hJ
              have HLJ : RowKit.Hid ((ll ++ List.replicate j 0).length = m + j) := Lib.hid (by rw [List.length_append, List.length_replicate, HM.out])
              have c5 := hJ.rs.cell5
              have HJ0 := Lib.hid hj0
              clear hJ hj0
              by_cases hjt : j < t
              · have hd3 : decide ((j : Int) < ((t : Nat) : Int)) = true := decide_eq_true (by omega)
                by_cases h0 : bad6 = 0
                · subst h0
                  have c5z : wr.cell? ⟨h, 5, none⟩ = some (.int .i64 0) := c5
                  have hmt : m + t ≤ tt := by
                    rcases HT6.out with ⟨_, _, _, _, h1, _⟩ | ⟨h1, _⟩
                    · rw [HM.out] at h1; exact h1
                    · exact absurd rfl h1
                  have HB : RowKit.Hid (B ≤ wr.heap.size) := Lib.hid HJ.out.bs
                  have HS : RowKit.Hid ((ints64 (ll ++ List.replicate j 0)).length + 1 ≤ 1000000) := Lib.hid (by rw [ints_length, HLJ.out]; omega)
                  clear c5
                  go_wp2_with (at_builtin; refine pushI wr rfl (.tmp 148) (.tmp 150) rfl B _ (ints64 (ll ++ List.replicate j 0)) [((0 : Nat) : Int)] _ 1 rfl rfl HJ.out.own rfl rfl HB.out HS.out ?_)
                  intro v6 w6 ho6 hg6 hf6
                  have he6 : ints64 (ll ++ List.replicate j 0) ++ [((0 : Nat) : Int)] = ints64 (ll ++ List.replicate j 0 ++ [0]) := by rw [ints_append (ll ++ List.replicate j 0) [0]]; rfl
                  have ho7 : OwnI w6 B v6 (ints64 (ll ++ List.replicate j 0 ++ [0])) := by rw [← he6]; exact ho6
                  have HJ6 := Lib.hid (HJ.out.push ho7 hg6 hf6)
                  clear ho6 ho7 hg6 hf6 he6
                  go_wp2_with fail
                  go_roundw
                  case rel => exact ⟨j + 1, by omega, by simp, by rw [List.replicate_succ', ← List.append_assoc]; exact HJ6.out, fun hh => absurd rfl hh⟩
                  case measure => simp [intOf]; omega
                · have eb1 : ((bad6 : Int) == 0) = false := by rw [beq_eq_false_iff_ne]; omega
                  have eb2 : ¬ (bad6 : Int) = 0 := by omega
                  go_wp2_with fail
                  go_roundw
                  case rel =>
                    refine ⟨v4, s4, _, bad6, HJ.out, .inr ⟨h0, ?_⟩⟩
                    rcases HT6.out with ⟨h1, _⟩ | ⟨_, h1⟩
                    · exact absurd h1 h0
                    · exact h1
                  case measure => rw [HJ.out.rs.measB h0, HMZ.out]; omega
              · have hjt2 : j = t := by omega
                have hd3 : decide ((j : Int) < ((t : Nat) : Int)) = false := decide_eq_false (by omega)
                have HJT := Lib.hid hjt2
                clear hjt2
                go_wp2_with fail
                go_roundw
                case rel =>
                  rcases HT6.out with ⟨h0, hx15, hp, hs, hlt2, hX2⟩ | ⟨hb, hX2⟩
                  · subst h0
                    rw [HM.out] at hlt2
                    refine ⟨v4, s4, ll ++ List.replicate j 0, 0, HJ.out, .inl ⟨rfl, hs, by rw [HLJ.out, HJT.out]; omega, fun z hz => ?_, F1, by rw [HLJ.out, HJT.out]; have := HF.out; omega, by rw [HJT.out]; exact hX2⟩⟩
                    rcases List.mem_append.1 hz with h1 | h1
                    · exact HLOW.out z h1
                    · rw [List.eq_of_mem_replicate h1]; exact hx15
                  · exact ⟨v4, s4, _, bad6, HJ.out, .inr ⟨hb, hX2⟩⟩
                case measure =>
                  rcases HT6.out with ⟨h0, hx15, hp, hs, hlt2, hX2⟩ | ⟨hb, hX2⟩
                  · subst h0
                    rw [HJ.out.rs.meas0, HMZ.out]; have := HJ.out.rs.le; omega
                  · rw [HJ.out.rs.measB hb, HMZ.out]; omega
          have HT : RowKit.Hid (TailF tt la F1 1 x hl ll M lim X s1 s3 bad3) := Lib.hid (by
            rcases HX3.out with ⟨rfl, hx⟩ | ⟨hb, _, hx⟩
            · have h9 := sign_facts hx
              exact tail_ok HX1.out HN.out hx (by unfold runX; rw [if_neg h16, if_neg h17, if_neg h18]; rfl) (by omega) h9.2.1 (by rw [h9.2.2.2]; have := h9.2.1; have := HSP.out; show s1.steps + 1 ≤ s3.pos; have h8 : s1.pos < s3.pos := h9.2.1; omega)
            · exact tail_no1 HX1.out HN.out hb hx)
          have n16 : ((x : Int) == 16) = false := by rw [beq_eq_false_iff_ne]; omega
          have n17 : ((x : Int) == 17) = false := by rw [beq_eq_false_iff_ne]; omega
          have n18 : ((x : Int) == 18) = false := by rw [beq_eq_false_iff_ne]; omega
          have m16 : ¬ (x : Int) = 16 := by omega
          have m17 : ¬ (x : Int) = 17 := by omega
          have m18 : ¬ (x : Int) = 18 := by omega
          have HI5 := Lib.hid HI3.out
          clear HI3 HX3
          go_wp2_with fail
          refine (rwrong_o _ 2 _ rfl w3 HI5.out.rs).mono ?_
          rintro e w6 ⟨rfl, bad6, hb6, hg6, hm6⟩
          have HI6 := Lib.hid (HI5.out.step hg6 hm6)
          have HT6 := Lib.hid (tail6 HT.out (by rw [HM.out]; first | rfl | exact decide_eq_decide.2 (by omega)) hb6)
          clear hb6 hg6 hm6 HT HI5
          go_wp2_with fail
          go_loopw [11, 15] (fun u i wr => ∃ (j : Nat), j ≤ 1 ∧ i = .int .i64 (j : Int) ∧ RLensI w wr h A N c M lim B pc hl v v3 u s3 (ll ++ List.replicate j x) bad6 ∧ (bad6 ≠ 0 → j = 0)) (fun _ i _ => 1 - (intOf i).toNat)
          case atStart => exact ⟨0, Nat.zero_le _, rfl, by simpa using HI6.out, fun _ => rfl⟩
          case round =>
            clear HI6
            obtain ⟨j, hj, rfl, hJ, hj0⟩ := hrel
            obtain ⟨A4, c4, rfl⟩ := hJ.own.slice
            rw [ints_length, List.length_append, List.length_replicate, HM.out] at hJ ⊢
            have HJ := Lib.hid hJ
            have HLJ : RowKit.Hid ((ll ++ List.replicate j x).length = m + j) := Lib.hid (by rw [List.length_append, List.length_replicate, HM.out])
            have c5 := hJ.rs.cell5
            have HJ0 := Lib.hid hj0
            clear hJ hj0
            by_cases hjt : j < 1
            · have hd3 : decide ((j : Int) < ((1 : Nat) : Int)) = true := decide_eq_true (by omega)
              by_cases h0 : bad6 = 0
              · subst h0
                have c5z : wr.cell? ⟨h, 5, none⟩ = some (.int .i64 0) := c5
                have hmt : m + 1 ≤ tt := by
                  rcases HT6.out with ⟨_, _, _, _, h1, _⟩ | ⟨h1, _⟩
                  · rw [HM.out] at h1; exact h1
                  · exact absurd rfl h1
                have HB : RowKit.Hid (B ≤ wr.heap.size) := Lib.hid HJ.out.bs
                have HS : RowKit.Hid ((ints64 (ll ++ List.replicate j x)).length + 1 ≤ 1000000) := Lib.hid (by rw [ints_length, HLJ.out]; omega)
                clear c5
                go_wp2_with (at_builtin; refine pushI wr rfl (.tmp 148) (.tmp 150) rfl B _ (ints64 (ll ++ List.replicate j x)) [((x : Nat) : Int)] _ 1 rfl rfl HJ.out.own rfl rfl HB.out HS.out ?_)
                intro v6 w6 ho6 hg6 hf6
                have he6 : ints64 (ll ++ List.replicate j x) ++ [((x : Nat) : Int)] = ints64 (ll ++ List.replicate j x ++ [x]) := by rw [ints_append (ll ++ List.replicate j x) [x]]; rfl
                have ho7 : OwnI w6 B v6 (ints64 (ll ++ List.replicate j x ++ [x])) := by rw [← he6]; exact ho6
                have HJ6 := Lib.hid (HJ.out.push ho7 hg6 hf6)
                clear ho6 ho7 hg6 hf6 he6
                go_wp2_with fail
                go_roundw
                case rel => exact ⟨j + 1, by omega, by simp, by rw [List.replicate_succ', ← List.append_assoc]; exact HJ6.out, fun hh => absurd rfl hh⟩
                case measure => simp [intOf]; omega
              · have eb1 : ((bad6 : Int) == 0) = false := by rw [beq_eq_false_iff_ne]; omega
                have eb2 : ¬ (bad6 : Int) = 0 := by omega
                go_wp2_with fail
                go_roundw
                case rel =>
                  refine ⟨v3, s3, _, bad6, HJ.out, .inr ⟨h0, ?_⟩⟩
                  rcases HT6.out with ⟨h1, _⟩ | ⟨_, h1⟩
                  · exact absurd h1 h0
                  · exact h1
                case measure => rw [HJ.out.rs.measB h0, HMZ.out]; omega
            · have hjt2 : j = 1 := by omega
              have hd3 : decide ((j : Int) < ((1 : Nat) : Int)) = false := decide_eq_false (by omega)
              have HJT := Lib.hid hjt2
              clear hjt2
              go_wp2_with fail
              go_roundw
              case rel =>
                rcases HT6.out with ⟨h0, hx15, hp, hs, hlt2, hX2⟩ | ⟨hb, hX2⟩
                · subst h0
                  rw [HM.out] at hlt2
                  refine ⟨v3, s3, ll ++ List.replicate j x, 0, HJ.out, .inl ⟨rfl, hs, by rw [HLJ.out, HJT.out]; omega, fun z hz => ?_, F1, by rw [HLJ.out, HJT.out]; have := HF.out; omega, by rw [HJT.out]; exact hX2⟩⟩
                  rcases List.mem_append.1 hz with h1 | h1
                  · exact HLOW.out z h1
                  · rw [List.eq_of_mem_replicate h1]; exact hx15
                · exact ⟨v3, s3, _, bad6, HJ.out, .inr ⟨hb, hX2⟩⟩
              case measure =>
                rcases HT6.out with ⟨h0, hx15, hp, hs, hlt2, hX2⟩ | ⟨hb, hX2⟩
                · subst h0
                  rw [HJ.out.rs.meas0, HMZ.out]; have := HJ.out.rs.le; omega
                · rw [HJ.out.rs.measB hb, HMZ.out]; omega
        · obtain rfl : m = tt := by omega
          have hd2 : decide ((m : Int) < (m : Int)) = false := decide_eq_false (by omega)
          have HX2 : RowKit.Hid (toldL la ll M lim s1 = X) := Lib.hid (by rw [← hX]; exact (ok_bind (a := ll) (s1 := s1) (by rw [lensX, if_pos (by rw [HM.out]; exact Nat.le_refl _)]; rfl) rfl).symm)
          have hmc : m ≤ c2 := by
            rcases hI1.own.2 with ⟨h1, h2⟩ | ⟨_, cap, _, h1, _, _, h2, _⟩
            · injection h1 with _ h1 _; omega
            · injection h1 with _ h3 h4; subst h4; rw [ints_length, HM.out] at h2; exact h2
          obtain ⟨bb, oo, rfl, hbb, _⟩ := hI1.own.rd.2.2 (by omega)
          have HI1 := Lib.hid hI1
          have HRD := Lib.hid hI1.own.rd.2
          have hne : ¬ c2 = la := by omega
          have hlac : la ≤ c2 := by omega
          have hlat : la ≤ m := by omega
          obtain ⟨z, hz⟩ : ∃ z, ll.getD 256 0 = z := ⟨_, rfl⟩
          have HZ := Lib.hid hz
          have hz15 : z ≤ 15 := by
            rw [← hz, List.getD_eq_getElem?_getD]
            rw [List.getElem?_eq_getElem (show 256 < ll.length by rw [HM.out]; omega)]
            exact HLOW.out _ (List.getElem_mem _)
          have h256 : (256 : Int) < (m : Int) := by omega
          have h256n : 256 < m := by omega
          clear hX hI1 hsp hF hbb hz
          go_wp2_with fail
          refine (rcode_any _ _ _ (ll.take la) false wr HI1.out.rs (by have h0 := HRD.out.part 0 la (by omega); rw [List.drop_zero, is_take] at h0; exact h0) (by rw [List.length_take, HM.out]; omega) (low_take HLOW.out la)).mono ?_
          rintro e w5 ⟨hm5, _, hc5⟩
          obtain ⟨x5, bad5, rfl, hg5, hc5⟩ : ∃ x5 bad5, e = .returned x5 ∧ RS w5 h A N c M lim v1 s1 bad5 ∧ ((right (ll.take la) false = true ∧ bad5 = 0 ∧ ∃ p, x5 = .slice (some ⟨p, 0, none⟩) (ll.take la).length (ll.take la).length ∧ RC w5 h v1 p (ll.take la)) ∨ (right (ll.take la) false = false ∧ bad5 = 2)) := by
            rcases hc5 with ⟨h1, h2, p, h3, h4⟩ | ⟨h1, h2, h3⟩
            · exact ⟨_, 0, h3, h2, .inl ⟨h1, rfl, p, rfl, h4⟩⟩
            · exact ⟨_, 2, h3, h2, .inr ⟨h1, rfl⟩⟩
          have HI5 := Lib.hid (HI1.out.step hg5 hm5)
          have HC5 := Lib.hid hc5
          have HRD5 := Lib.hid HI5.out.own.rd.2
          clear hm5 hg5 hc5 c5 HRD
          go_wp2_with fail
          refine (rcode_any _ _ _ (ll.drop la) true w5 HI5.out.rs (by have h0 := HRD5.out.part la (m - la) (by omega); rw [is_drop, is_take, List.take_of_length_le (by rw [List.length_drop, HM.out]; omega)] at h0; exact h0) (by rw [List.length_drop, HM.out]; omega) (low_drop HLOW.out la)).mono ?_
          rintro e w6 ⟨hm6, _, hc6⟩
          obtain ⟨x6, bad6, rfl, hg6, hc6⟩ : ∃ x6 bad6, e = .returned x6 ∧ RS w6 h A N c M lim v1 s1 bad6 ∧ ((right (ll.drop la) true = true ∧ bad6 = bad5 ∧ ∃ p, x6 = .slice (some ⟨p, 0, none⟩) (ll.drop la).length (ll.drop la).length ∧ RC w6 h v1 p (ll.drop la)) ∨ (right (ll.drop la) true = false ∧ bad6 = or2 bad5)) := by
            rcases hc6 with ⟨h1, h2, p, h3, h4⟩ | ⟨h1, h2, h3⟩
            · exact ⟨_, bad5, h3, h2, .inl ⟨h1, rfl, p, rfl, h4⟩⟩
            · exact ⟨_, or2 bad5, h3, h2, .inr ⟨h1, rfl⟩⟩
          have HI6 := Lib.hid (HI5.out.step hg6 hm6)
          have HC6 := Lib.hid hc6
          have HM6 := Lib.hid hm6
          obtain ⟨bb2, oo2, hab, _, hc9⟩ := HI6.out.own.rd.2.2 (by omega)
          injection hab with hab
          injection hab with hb1 hb2
          subst hb1 hb2
          have cz : w6.cell? ⟨bb, oo + 256, none⟩ = some (.int .i64 (z : Int)) := hc9 256 _ (is_at (by rw [HM.out]; omega) HZ.out)
          clear hc9 hm6 hg6 hc6 HRD5
          go_wp2_with fail
          refine (rwrong_o _ 2 _ rfl w6 HI6.out.rs).mono ?_
          rintro e w7 ⟨rfl, bad7, hb7, hg7, hm7⟩
          have HI7 := Lib.hid (HI6.out.step hg7 hm7)
          have HM7 := Lib.hid hm7
          have HB7 : RowKit.Hid (bad7 = wrongB bad6 (decide (z = 0)) 2) := Lib.hid (by rw [hb7]; congr 1; first | rfl | exact decide_eq_decide.2 (by omega) | (rw [Bool.eq_iff_iff]; simp; try omega))
          clear hb7 hg7 hm7
          go_wp2_with fail
          go_ret2
          have hX2 := HX2.out
          unfold toldL at hX2
          rw [HZ.out] at hX2
          have hb7 := HB7.out
          by_cases hall : right (ll.take la) false = false ∨ right (ll.drop la) true = false ∨ z = 0
          · rw [if_pos hall] at hX2
            have h72 : bad7 = 2 := by
              rw [hb7]
              rcases HC5.out with ⟨h1, h2, _⟩ | ⟨h1, h2⟩
              · rcases HC6.out with ⟨h3, h4, _⟩ | ⟨h3, h4⟩
                · rcases hall with h9 | h9 | h9
                  · rw [h1] at h9; cases h9
                  · rw [h3] at h9; cases h9
                  · rw [h4, h2, h9]; rfl
                · rw [h4, h2]; rfl
              · rcases HC6.out with ⟨h3, h4, _⟩ | ⟨h3, h4⟩
                · rw [h4, h2]; rfl
                · rw [h4, h2]; rfl
            subst h72
            exact .inr ⟨2, s1, v1, hX2.symm, by decide, HI7.out.rs, HI7.out.mv, _, _, rfl⟩
          · rw [if_neg hall] at hX2
            rcases HC5.out with ⟨h1, h2, pa, h3, h4⟩ | ⟨h1, h2⟩
            · rcases HC6.out with ⟨h5, h6, pb, h7, h8⟩ | ⟨h5, h6⟩
              · have h70 : bad7 = 0 := by
                  rw [hb7, h6, h2]
                  unfold wrongB
                  rw [if_pos rfl, if_neg (by rw [decide_eq_true_eq]; exact fun e => hall (.inr (.inr e)))]
                subst h70
                exact .inl ⟨_, s1, v1, hX2.symm, HI7.out.rs, HI7.out.mv, pa, pb, by subst h3; subst h7; rfl, (h4.moves HM6.out).moves HM7.out, h8.moves HM7.out⟩
              · exact absurd (.inr (.inl h5)) hall
            · exact absurd (.inl h1) hall
end Go.Proofs.YtjipjclbhdgkoaaDoor
