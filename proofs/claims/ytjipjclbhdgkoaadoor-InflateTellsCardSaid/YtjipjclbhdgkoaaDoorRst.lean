/- Contract of the reference's stored. -/
import Derived.Test.YtjipjclbhdgkoaaDoorRms
import Derived.Test.YtjipjclbhdgkoaaDoorMlt
namespace Go.Proofs.YtjipjclbhdgkoaaDoor
open Go.RowKit

variable {h : Nat} {A : Option Addr} {N c : Nat} {M : List UInt8} {lim : Nat} {v : Value} {s : Sx} {bad : Nat}
theorem RS.posOf {w : World} (g : RS w h A N c M lim v s bad) : posOf h w = s.pos := by
  unfold Go.Proofs.YtjipjclbhdgkoaaDoor.posOf
  rw [g.cell1]
  simp
theorem bytesB_more : ∀ (i : Nat) (M : List UInt8), bytesB M (i + 1) = bytesB M i ++ [UInt8.ofNat (numB ((M.drop (8 * i)).take 8))]
  | 0, M => by simp [bytesB]
  | i + 1, M => by
    rw [bytesB, bytesB_more i (M.drop 8), bytesB, List.drop_drop, show 8 + 8 * i = 8 * (i + 1) by omega]
    rfl
theorem numX_lt {k : Nat} {s2 : Sx} {a : Nat} (hb : Bin M) (hx : numX k M lim s = .ok (a, s2)) : a < 2 ^ k := by
  unfold numX at hx
  split at hx
  · cases hx
  · injection hx with hx
    injection hx with h1 _
    subst h1
    refine Nat.lt_of_lt_of_le (numB_lt ((hb.drop _).take _)) (Nat.pow_le_pow_right (by decide) ?_)
    rw [List.length_take]; omega

set_option maxHeartbeats 4000000 in
set_option maxRecDepth 20000 in
theorem rstored_any (w : World) (g : RS w h A N c M lim v s 0) :
    Calls Tryd.prog 19 #[.pointer (some ⟨h, 0, none⟩)] w (ROut w h A N c M lim v (storedX M lim s) unit unitE) := by
  obtain ⟨X, HX⟩ : ∃ X, RowKit.Hid (storedX M lim s = X) := ⟨_, Lib.hid rfl⟩
  rw [HX.out]
  have HG := Lib.hid g
  obtain ⟨al, hal⟩ : ∃ al, (s.pos + 7) / 8 * 8 = al := ⟨_, rfl⟩
  have HX1 : RowKit.Hid (bindX (numX 16) (fun n => bindX (numX 16) fun t => if n + t ≠ 65535 then failX 2 else storeX n) M lim ⟨al, s.out, s.steps⟩ = X) := Lib.hid (by rw [← hal]; exact bind_go (f := alignX) rfl HX.out)
  have HAL : RowKit.Hid (s.pos ≤ al ∧ al ≤ s.pos + 7 ∧ al % 8 = 0 ∧ al ≤ N) := Lib.hid (by have := g.le; have := g.m8; omega)
  clear g hal HX
  go_enter Tryd.func19, Tryd.ntmps19
  go_wp2_with fail
  go_loopw [5] (fun _ wr => ∃ q, s.pos ≤ q ∧ q ≤ al ∧ RS wr h A N c M lim v ⟨q, s.out, s.steps⟩ 0 ∧ Moves w wr h h v v) (fun _ wr => al - posOf h wr)
  case atStart => exact ⟨s.pos, Nat.le_refl _, HAL.out.1, HG.out, Moves.refl w h h v⟩
  case round =>
    clear HG
    obtain ⟨q, hq1, hq2, hg, hm⟩ := hrel
    have c1 : wr.cell? ⟨h, 1, none⟩ = some (.int .i64 (q : Int)) := hg.cell1
    have f1 := hg.row.thawed 1
    have hqN : q ≤ N := hg.le
    have hnn := hg.nn
    have HG := Lib.hid hg
    have HM := Lib.hid hm
    have HPO := Lib.hid hg.posOf
    by_cases hq8 : q % 8 = 0
    rotate_left
    · obtain ⟨r8, hr8⟩ : ∃ r8, q % 8 = r8 := ⟨_, rfl⟩
      have e1 : (q : Int).tmod 8 = (r8 : Int) := by rw [Int.tmod_eq_emod_of_nonneg (by omega)]; omega
      have e2 : (q : Int) % 8 = (r8 : Int) := by omega
      have e3 : ((r8 : Int) == 0) = false := by rw [beq_eq_false_iff_ne]; omega
      have e4 : ¬ (r8 : Int) = 0 := by omega
      have e5 : ¬ r8 = 0 := by omega
      have hlt : q < al := by have := HAL.out; omega
      have HS := Lib.hid (hg.set 1 (.int .i64 ((q : Int) + 1)) (s' := ⟨q + 1, s.out, s.steps⟩) (bad' := 0) (by simp) (show q + 1 ≤ N by have := HAL.out; omega) rfl (by have := hg.sp; show s.steps ≤ q + 1 + 1; have h9 : s.steps ≤ q + 1 := this; omega))
      have HW : RowKit.Hid (posOf h (wr.setCell ⟨h, 1, none⟩ (.int .i64 ((q : Int) + 1))) = q + 1) := Lib.hid HS.out.1.posOf
      clear hg hm hr8
      go_wp2_with fail
      go_roundw
      case rel => exact ⟨q + 1, by omega, by omega, HS.out.1, HM.out.trans HS.out.2⟩
      case measure => rw [HW.out, HPO.out]; show al - (q + 1) < al - q; omega
    obtain rfl : q = al := by have := HAL.out; omega
    have e1 : (q : Int).tmod 8 = 0 := by rw [Int.tmod_eq_emod_of_nonneg (by omega)]; omega
    have e2 : (q : Int) % 8 = 0 := by omega
    clear hg hm hq8 f1
    go_wp2_with fail
    clear c1 e1 e2
    refine (rnum_any 16 (by omega) wr HG.out).mono ?_
    rintro e w1 (⟨a, s1, v1, hx1, hg1, hm1, he1⟩ | ⟨k1, s1, v1, hx1, hk1, hg1, hm1, he1⟩)
    rotate_left
    · obtain rfl := he1
      have HXE : RowKit.Hid (X = .error k1) := Lib.hid (by rw [← HX1.out]; exact err_bind hx1)
      have HGB := Lib.hid hg1
      have HMB := Lib.hid (HM.out.trans hm1)
      have hkb : k1 ≠ 0 := hk1
      clear hg1 hm1 hx1 hk1 HG HM HX1
      go_wp2_with fail
      refine (rnum_bad 16 w1 HGB.out hkb).mono ?_
      rintro e wz ⟨rfl, rfl⟩
      go_wp2_with fail
      refine (rwrong_no _ _ w1 HGB.out (.inl hkb)).mono ?_
      rintro e wz ⟨rfl, rfl⟩
      have c2 := HGB.out.cell2
      obtain ⟨Ao, co, hvo⟩ := HGB.out.own.slice
      rw [hvo] at c2
      have c3 := HGB.out.cell3
      go_wp2_with fail
      go_still_tail 13, (by kernel_rfl)
      change wpList _ _ _ _ _ w1.drew
      have HGB := Lib.hid (HGB.out.still (drew_grown w1))
      have HMB := Lib.hid (HMB.out.trans (Moves.grown (g := h) (r := h) v1 (drew_grown w1) (.inl rfl)))
      clear hvo c2 c3
      generalize w1.drew = w1b at HGB HMB ⊢
      go_wp2_with fail
      refine (rwrong_no _ _ w1b HGB.out (.inl hkb)).mono ?_
      rintro e wz ⟨rfl, rfl⟩
      have c0 := HGB.out.cell0
      have c1 := HGB.out.cell1
      go_wp2_with fail
      go_still_tail 14, (by kernel_rfl)
      change wpList _ _ _ _ _ w1b.drew
      have HGB := Lib.hid (HGB.out.still (drew_grown w1b))
      have HMB := Lib.hid (HMB.out.trans (Moves.grown (g := h) (r := h) v1 (drew_grown w1b) (.inl rfl)))
      clear c0 c1
      generalize w1b.drew = w1bc at HGB HMB ⊢
      go_wp2_with fail
      refine (rwrong_no _ _ w1bc HGB.out (.inl hkb)).mono ?_
      rintro e wz ⟨rfl, rfl⟩
      have c5 := HGB.out.cell5
      have eb : ((k1 : Int) == 0) = false := by rw [beq_eq_false_iff_ne]; omega
      have eb2 : ¬ (k1 : Int) = 0 := by omega
      go_wp2_with fail
      go_loopw [4] (fun i wr => i = .int .i64 0 ∧ wr = w1bc) (fun _ _ => 0)
      case atStart => exact ⟨rfl, rfl⟩
      case round =>
        obtain ⟨rfl, rfl⟩ := hrel
        go_wp2_with fail
        all_goals
          go_end0
          exact .inr ⟨k1, s1, v1, HXE.out, hkb, HGB.out, HMB.out, rfl⟩
    obtain rfl := he1
    have ha : a < 65536 := numX_lt HG.out.bin hx1
    have HX2 := Lib.hid (bind_go hx1 HX1.out)
    have HM1 := Lib.hid (HM.out.trans hm1)
    have HG1 := Lib.hid hg1
    have HP1 : RowKit.Hid (s1.pos = q + 16 ∧ s1.out = s.out ∧ s1.steps = s.steps) := Lib.hid (num_ok hx1)
    clear hg1 hm1 hx1 HG HM HX1
    go_wp2_with fail
    refine (rnum_any 16 (by omega) w1 HG1.out).mono ?_
    rintro e w2 (⟨t, s2, v2, hx2, hg2, hm2, he2⟩ | ⟨k2, s2, v2, hx2, hk2, hg2, hm2, he2⟩)
    rotate_left
    · obtain rfl := he2
      have HXE : RowKit.Hid (X = .error k2) := Lib.hid (by rw [← HX2.out]; exact err_bind hx2)
      have HGB := Lib.hid hg2
      have HMB := Lib.hid (HM1.out.trans hm2)
      have hkb : k2 ≠ 0 := hk2
      clear hg2 hm2 hx2 hk2 HG1 HM1 HX2
      go_wp2_with fail
      refine (rwrong_no _ _ w2 HGB.out (.inl hkb)).mono ?_
      rintro e wz ⟨rfl, rfl⟩
      have c2 := HGB.out.cell2
      obtain ⟨Ao, co, hvo⟩ := HGB.out.own.slice
      rw [hvo] at c2
      have c3 := HGB.out.cell3
      go_wp2_with fail
      go_still_tail 13, (by kernel_rfl)
      change wpList _ _ _ _ _ w2.drew
      have HGB := Lib.hid (HGB.out.still (drew_grown w2))
      have HMB := Lib.hid (HMB.out.trans (Moves.grown (g := h) (r := h) v2 (drew_grown w2) (.inl rfl)))
      clear hvo c2 c3
      generalize w2.drew = w2b at HGB HMB ⊢
      go_wp2_with fail
      refine (rwrong_no _ _ w2b HGB.out (.inl hkb)).mono ?_
      rintro e wz ⟨rfl, rfl⟩
      have c0 := HGB.out.cell0
      have c1 := HGB.out.cell1
      go_wp2_with fail
      go_still_tail 14, (by kernel_rfl)
      change wpList _ _ _ _ _ w2b.drew
      have HGB := Lib.hid (HGB.out.still (drew_grown w2b))
      have HMB := Lib.hid (HMB.out.trans (Moves.grown (g := h) (r := h) v2 (drew_grown w2b) (.inl rfl)))
      clear c0 c1
      generalize w2b.drew = w2bc at HGB HMB ⊢
      go_wp2_with fail
      refine (rwrong_no _ _ w2bc HGB.out (.inl hkb)).mono ?_
      rintro e wz ⟨rfl, rfl⟩
      have c5 := HGB.out.cell5
      have eb : ((k2 : Int) == 0) = false := by rw [beq_eq_false_iff_ne]; omega
      have eb2 : ¬ (k2 : Int) = 0 := by omega
      go_wp2_with fail
      go_loopw [4] (fun i wr => i = .int .i64 0 ∧ wr = w2bc) (fun _ _ => 0)
      case atStart => exact ⟨rfl, rfl⟩
      case round =>
        obtain ⟨rfl, rfl⟩ := hrel
        go_wp2_with fail
        all_goals
          go_end0
          exact .inr ⟨k2, s2, v2, HXE.out, hkb, HGB.out, HMB.out, rfl⟩
    obtain rfl := he2
    have ht : t < 65536 := numX_lt HG1.out.bin hx2
    have hX3 := bind_go hx2 HX2.out
    have HM2 := Lib.hid (HM1.out.trans hm2)
    have HG2 := Lib.hid hg2
    have HP2 : RowKit.Hid (s2.pos = q + 32 ∧ s2.out = s.out ∧ s2.steps = s.steps) := Lib.hid (by have h1 := HP1.out; have h2 := num_ok hx2; exact ⟨by omega, h2.2.1.trans h1.2.1, h2.2.2.trans h1.2.2⟩)
    clear hg2 hm2 hx2 HG1 HM1 HX2
    by_cases hsum : a + t = 65535
    rotate_left
    · rw [if_pos hsum] at hX3
      have HXE : RowKit.Hid (X = .error 2) := Lib.hid hX3.symm
      have e3 : ((a : Int) + (t : Int) == 65535) = false := by rw [beq_eq_false_iff_ne]; omega
      have e4 : ¬ (a : Int) + (t : Int) = 65535 := by omega
      clear hX3
      go_wp2_with fail
      refine (rwrong_yes _ (by first | rfl | (simp; omega)) 2 _ rfl w2 HG2.out).mono ?_
      rintro e w3 ⟨rfl, hg3, hm3, _⟩
      have HGB := Lib.hid hg3
      have HMB := Lib.hid (HM2.out.trans hm3)
      have hkb : 2 ≠ 0 := by decide
      clear hg3 hm3 HG2 HM2 e3 e4
      have c2 := HGB.out.cell2
      obtain ⟨Ao, co, hvo⟩ := HGB.out.own.slice
      rw [hvo] at c2
      have c3 := HGB.out.cell3
      go_wp2_with fail
      go_still_tail 13, (by kernel_rfl)
      change wpList _ _ _ _ _ w3.drew
      have HGB := Lib.hid (HGB.out.still (drew_grown w3))
      have HMB := Lib.hid (HMB.out.trans (Moves.grown (g := h) (r := h) v2 (drew_grown w3) (.inl rfl)))
      clear hvo c2 c3
      generalize w3.drew = w3b at HGB HMB ⊢
      go_wp2_with fail
      refine (rwrong_no _ _ w3b HGB.out (.inl hkb)).mono ?_
      rintro e wz ⟨rfl, rfl⟩
      have c0 := HGB.out.cell0
      have c1 := HGB.out.cell1
      go_wp2_with fail
      go_still_tail 14, (by kernel_rfl)
      change wpList _ _ _ _ _ w3b.drew
      have HGB := Lib.hid (HGB.out.still (drew_grown w3b))
      have HMB := Lib.hid (HMB.out.trans (Moves.grown (g := h) (r := h) v2 (drew_grown w3b) (.inl rfl)))
      clear c0 c1
      generalize w3b.drew = w3bc at HGB HMB ⊢
      go_wp2_with fail
      refine (rwrong_no _ _ w3bc HGB.out (.inl hkb)).mono ?_
      rintro e wz ⟨rfl, rfl⟩
      have c5 := HGB.out.cell5
      have eb : ((2 : Int) == 0) = false := by rw [beq_eq_false_iff_ne]; omega
      have eb2 : ¬ (2 : Int) = 0 := by omega
      go_wp2_with fail
      go_loopw [4] (fun i wr => i = .int .i64 0 ∧ wr = w3bc) (fun _ _ => 0)
      case atStart => exact ⟨rfl, rfl⟩
      case round =>
        obtain ⟨rfl, rfl⟩ := hrel
        go_wp2_with fail
        all_goals
          go_end0
          exact .inr ⟨2, s2, v2, HXE.out, hkb, HGB.out, HMB.out, rfl⟩
    rw [if_neg (by omega)] at hX3
    have HX3 := Lib.hid hX3
    have e3 : ((a : Int) + (t : Int) == 65535) = true := by rw [beq_iff_eq]; omega
    have e4 : (a : Int) + (t : Int) = 65535 := by omega
    clear hX3 hsum
    go_wp2_with fail
    refine (rwrong_no _ _ w2 HG2.out (.inr (by first | rfl | (simp; omega)))).mono ?_
    rintro e wz ⟨rfl, rfl⟩
    clear e3 e4
    obtain ⟨Ao, co, hvo⟩ := HG2.out.own.slice
    obtain ⟨lo, hlo⟩ : ∃ lo, s2.out.length = lo := ⟨_, rfl⟩
    have c2 := HG2.out.cell2
    rw [hvo, hlo] at c2
    have c3 := HG2.out.cell3
    have hlm := HG2.out.lm
    have hol : lo ≤ lim + 1 := by rw [← hlo]; exact HG2.out.ol
    have HLO := Lib.hid hlo
    clear hvo hlo
    obtain ⟨la, hla⟩ : ∃ la, lo + a = la := ⟨_, rfl⟩
    have el : (lo : Int) + (a : Int) = (la : Int) := by omega
    have elw : IntKind.i64.wrap (la : Int) = (la : Int) := wrap64_in _ (by omega) (by omega)
    by_cases hroom : lim < la
    · have HXE : RowKit.Hid (X = .error 3) := Lib.hid (by rw [← HX3.out]; unfold storeX; rw [if_pos (by rw [HLO.out, hla]; exact hroom)])
      have hd : decide ((lim : Int) < (la : Int)) = true := decide_eq_true (by omega)
      go_wp2_with fail
      go_still_tail 13, (by kernel_rfl)
      change wpList _ _ _ _ _ w2.drew
      have HG3 := Lib.hid (HG2.out.still (drew_grown w2))
      have HM3 := Lib.hid (HM2.out.trans (Moves.grown (g := h) (r := h) v2 (drew_grown w2) (.inl rfl)))
      clear c2 c3
      generalize w2.drew = w3 at HG3 HM3 ⊢
      go_wp2_with fail
      refine (rwrong_yes _ (by first | rfl | (simp; omega)) 3 _ rfl w3 HG3.out).mono ?_
      rintro e w4 ⟨rfl, hg4, hm4, _⟩
      have HGB := Lib.hid hg4
      have HMB := Lib.hid (HM3.out.trans hm4)
      have hkb : 3 ≠ 0 := by decide
      clear hg4 hm4 HG2 HM2 HG3 HM3 el elw hd
      have c0 := HGB.out.cell0
      have c1 := HGB.out.cell1
      go_wp2_with fail
      go_still_tail 14, (by kernel_rfl)
      change wpList _ _ _ _ _ w4.drew
      have HGB := Lib.hid (HGB.out.still (drew_grown w4))
      have HMB := Lib.hid (HMB.out.trans (Moves.grown (g := h) (r := h) v2 (drew_grown w4) (.inl rfl)))
      clear c0 c1
      generalize w4.drew = w4c at HGB HMB ⊢
      go_wp2_with fail
      refine (rwrong_no _ _ w4c HGB.out (.inl hkb)).mono ?_
      rintro e wz ⟨rfl, rfl⟩
      have c5 := HGB.out.cell5
      have eb : ((3 : Int) == 0) = false := by rw [beq_eq_false_iff_ne]; omega
      have eb2 : ¬ (3 : Int) = 0 := by omega
      go_wp2_with fail
      go_loopw [4] (fun i wr => i = .int .i64 0 ∧ wr = w4c) (fun _ _ => 0)
      case atStart => exact ⟨rfl, rfl⟩
      case round =>
        obtain ⟨rfl, rfl⟩ := hrel
        go_wp2_with fail
        all_goals
          go_end0
          exact .inr ⟨3, s2, v2, HXE.out, hkb, HGB.out, HMB.out, rfl⟩
    have hd : decide ((lim : Int) < (la : Int)) = false := decide_eq_false (by omega)
    have hd' : ¬ lim < la := hroom
    go_wp2_with fail
    go_still_tail 13, (by kernel_rfl)
    change wpList _ _ _ _ _ w2.drew
    have HG3 := Lib.hid (HG2.out.still (drew_grown w2))
    have HM3 := Lib.hid (HM2.out.trans (Moves.grown (g := h) (r := h) v2 (drew_grown w2) (.inl rfl)))
    clear c2 c3
    generalize w2.drew = w3 at HG3 HM3 ⊢
    go_wp2_with fail
    refine (rwrong_no _ _ w3 HG3.out (.inr (by first | rfl | (simp; omega)))).mono ?_
    rintro e wz ⟨rfl, rfl⟩
    clear el elw hd HG2 HM2
    have c0 := HG3.out.cell0
    have c1 := HG3.out.cell1
    rw [HP2.out.1] at c1
    have hnn2 := HG3.out.nn
    have hle2 : q + 32 ≤ N := by have := HG3.out.le; rw [HP2.out.1] at this; exact this
    obtain ⟨p2, hp2⟩ : ∃ p2, q + 32 = p2 := ⟨_, rfl⟩
    rw [hp2] at c1 hle2
    obtain ⟨a8, ha8⟩ : ∃ a8, 8 * a = a8 := ⟨_, rfl⟩
    have e8 : 8 * (a : Int) = (a8 : Int) := by omega
    obtain ⟨pa, hpa⟩ : ∃ pa, p2 + a8 = pa := ⟨_, rfl⟩
    have e9 : (p2 : Int) + (a8 : Int) = (pa : Int) := by omega
    have e9w : IntKind.i64.wrap (pa : Int) = (pa : Int) := wrap64_in _ (by omega) (by omega)
    have e8w : IntKind.i64.wrap (a8 : Int) = (a8 : Int) := wrap64_in _ (by omega) (by omega)
    by_cases hend : N < pa
    · have HXE : RowKit.Hid (X = .error 10) := Lib.hid (by rw [← HX3.out]; unfold storeX; rw [if_neg (by rw [HLO.out, hla]; exact hd'), if_pos (by rw [HG3.out.len, HP2.out.1]; omega)])
      have hd : decide ((N : Int) < (pa : Int)) = true := decide_eq_true (by omega)
      go_wp2_with fail
      go_still_tail 14, (by kernel_rfl)
      change wpList _ _ _ _ _ w3.drew
      have HG4 := Lib.hid (HG3.out.still (drew_grown w3))
      have HM4 := Lib.hid (HM3.out.trans (Moves.grown (g := h) (r := h) v2 (drew_grown w3) (.inl rfl)))
      clear c0 c1
      generalize w3.drew = w4 at HG4 HM4 ⊢
      go_wp2_with fail
      refine (rwrong_yes _ (by first | rfl | (simp; omega)) 10 _ rfl w4 HG4.out).mono ?_
      rintro e w5 ⟨rfl, hg5, hm5, _⟩
      have HGB := Lib.hid hg5
      have HMB := Lib.hid (HM4.out.trans hm5)
      have hkb : 10 ≠ 0 := by decide
      clear hg5 hm5 HG3 HM3 HG4 HM4 hd
      have c5 := HGB.out.cell5
      have eb : ((10 : Int) == 0) = false := by rw [beq_eq_false_iff_ne]; omega
      have eb2 : ¬ (10 : Int) = 0 := by omega
      go_wp2_with fail
      go_loopw [4] (fun i wr => i = .int .i64 0 ∧ wr = w5) (fun _ _ => 0)
      case atStart => exact ⟨rfl, rfl⟩
      case round =>
        obtain ⟨rfl, rfl⟩ := hrel
        go_wp2_with fail
        all_goals
          go_end0
          exact .inr ⟨10, s2, v2, HXE.out, hkb, HGB.out, HMB.out, rfl⟩
    have hd : decide ((N : Int) < (pa : Int)) = false := decide_eq_false (by omega)
    have hd2 : ¬ N < pa := hend
    go_wp2_with fail
    go_still_tail 14, (by kernel_rfl)
    change wpList _ _ _ _ _ w3.drew
    have HG4 := Lib.hid (HG3.out.still (drew_grown w3))
    have HM4 := Lib.hid (HM3.out.trans (Moves.grown (g := h) (r := h) v2 (drew_grown w3) (.inl rfl)))
    clear c0 c1
    generalize w3.drew = w4 at HG4 HM4 ⊢
    go_wp2_with fail
    refine (rwrong_no _ _ w4 HG4.out (.inr (by first | rfl | (simp; omega)))).mono ?_
    rintro e wz ⟨rfl, rfl⟩
    have HXO : RowKit.Hid (X = .ok ((), ⟨s2.pos + 8 * a, s2.out ++ bytesB (M.drop s2.pos) a, s2.steps + a⟩)) := Lib.hid (by rw [← HX3.out]; unfold storeX; rw [if_neg (by rw [HLO.out, hla]; exact hd'), if_neg (by rw [HG3.out.len, HP2.out.1]; omega)])
    have HPQ : RowKit.Hid (s2.pos = p2) := Lib.hid (by rw [HP2.out.1, hp2])
    clear e8 e9 e9w e8w hd HG3 HM3
    go_wp2_with fail
    go_loopw [4] (fun i wr => ∃ (j : Nat) (v' : Value), j ≤ a ∧ i = .int .i64 (j : Int) ∧ RS wr h A N c M lim v' ⟨p2 + 8 * j, s2.out ++ bytesB (M.drop p2) j, s2.steps + j⟩ 0 ∧ Moves w wr h h v v') (fun i _ => a - (intOf i).toNat)
    case atStart => exact ⟨0, v2, Nat.zero_le _, rfl, by have h9 := HG4.out; rw [← HPQ.out]; simpa [bytesB] using h9, HM4.out⟩
    case round =>
      clear HG4 HM4
      obtain ⟨j, v', hj, rfl, hgj, hmj⟩ := hrel
      have c5 : wr.cell? ⟨h, 5, none⟩ = some (.int .i64 0) := hgj.cell5
      have HGJ := Lib.hid hgj
      have HMJ := Lib.hid hmj
      clear hgj hmj
      by_cases hlt : j < a
      rotate_left
      · obtain rfl : j = a := by omega
        have hdj : decide ((j : Int) < (j : Int)) = false := decide_eq_false (by omega)
        go_wp2_with fail
        go_end0
        exact .inl ⟨(), _, v', by rw [HXO.out, HPQ.out], HGJ.out, HMJ.out, rfl⟩
      have hdj : decide ((j : Int) < (a : Int)) = true := decide_eq_true (by omega)
      go_wp2_with fail
      refine (rnum_any 8 (by omega) wr HGJ.out).mono ?_
      have hfine := num_fine (lim := lim) (L := M) (s := ⟨p2 + 8 * j, s2.out ++ bytesB (M.drop p2) j, s2.steps + j⟩) (k := 8) (by rw [HGJ.out.len]; show ¬ N < p2 + 8 * j + 8; omega)
      rintro e w6 (⟨y, s6, v6, hx6, hg6, hm6, he6⟩ | ⟨k6, s6, v6, hx6, _⟩)
      rotate_left
      · rw [hfine] at hx6; cases hx6
      obtain rfl := he6
      have hy : y < 256 := numX_lt HGJ.out.bin hx6
      rw [hfine] at hx6
      injection hx6 with hx6
      injection hx6 with hy1 hs6
      subst hs6
      have HY : RowKit.Hid (UInt8.ofNat y = UInt8.ofNat (numB (((M.drop p2).drop (8 * j)).take 8))) := Lib.hid (by rw [← hy1, List.drop_drop])
      have hy8 : (y : Int) % 256 = (y : Int) := by omega
      have hyt : ((UInt8.ofNat y).toNat : Int) = (y : Int) := by rw [of_lt hy]
      have HG6 := Lib.hid hg6
      have HG6s : RowKit.Hid (s2.steps + j ≤ p2 + 8 * j + 1) := Lib.hid HGJ.out.sp
      have HM6 := Lib.hid (HMJ.out.trans hm6)
      have HOL : RowKit.Hid ((s2.out ++ bytesB (M.drop p2) j).length ≤ lim) := Lib.hid (by rw [List.length_append, bytesB_length, HLO.out]; omega)
      clear hfine hy1 hg6 hm6 HGJ HMJ c5
      go_wp2_with fail
      rw [← hyt]
      refine (rput_one (UInt8.ofNat y) w6 HG6.out HOL.out).mono ?_
      rintro e w7 ⟨rfl, v7, hg7, hm7⟩
      have c4 := hg7.cell4
      have f4 := hg7.row.thawed 4
      have hst : s2.steps + j ≤ 9000000 := by have h9 := hg7.sp; have h8 := hg7.le; have h7 := hg7.nn; have h9 : s2.steps + j ≤ p2 + 8 * j + 8 + 1 := h9; have h8 : p2 + 8 * j + 8 ≤ N := h8; omega
      obtain ⟨sj, hsj⟩ : ∃ sj, s2.steps + j = sj := ⟨_, rfl⟩
      have c4' : w7.cell? ⟨h, 4, none⟩ = some (.int .i64 (sj : Int)) := by rw [← hsj]; exact c4
      have HS8 := Lib.hid (hg7.set 4 (.int .i64 ((sj : Int) + 1)) (s' := ⟨p2 + 8 * j + 8, s2.out ++ bytesB (M.drop p2) j ++ [UInt8.ofNat y], s2.steps + (j + 1)⟩) (bad' := 0) (by rw [show ((s2.steps + (j + 1) : Nat) : Int) = (sj : Int) + 1 by omega]; rfl) hg7.le rfl (by have h9 := hg7.sp; have h9 : s2.steps + j ≤ p2 + 8 * j + 8 + 1 := h9; show s2.steps + (j + 1) ≤ p2 + 8 * j + 8 + 1; have h6 : s2.steps + j ≤ p2 + 8 * j + 1 := HG6s.out; omega))
      have HM7 := Lib.hid (HM6.out.trans hm7)
      have hsj9 : sj ≤ 9000000 := by omega
      clear hg7 hm7 c4 hsj
      go_wp2_with fail
      go_roundw
      case rel => exact ⟨j + 1, v7, by omega, by simp, by rw [bytesB_more, ← HY.out, ← List.append_assoc]; exact HS8.out.1, HM7.out.trans HS8.out.2⟩
      case measure => simp [intOf]; omega
end Go.Proofs.YtjipjclbhdgkoaaDoor
