/- Contract of the reference's coded. -/
import Derived.Test.YtjipjclbhdgkoaaDoorRst
import Derived.Test.YtjipjclbhdgkoaaDoorRsg
import Derived.Test.YtjipjclbhdgkoaaDoorRld
namespace Go.Proofs.YtjipjclbhdgkoaaDoor
open Go.RowKit

variable {h : Nat} {A : Option Addr} {N c : Nat} {M : List UInt8} {lim : Nat} {v : Value} {s : Sx} {bad : Nat}
def measC (h N : Nat) (w : World) : Nat := match w.cell? ⟨h, 5, none⟩ with
  | some (.int _ 0) => N - posOf h w + 1
  | _ => 0
theorem RS.meas0 {w : World} (g : RS w h A N c M lim v s 0) : measC h N w = N - s.pos + 1 := by
  unfold measC; rw [g.cell5, g.posOf]; rfl
theorem RS.measB {w : World} (g : RS w h A N c M lim v s bad) (hb : bad ≠ 0) : measC h N w = 0 := by
  unfold measC
  rw [g.cell5]
  obtain ⟨k, rfl⟩ : ∃ k, bad = k + 1 := ⟨bad - 1, by omega⟩
  rfl
/-- What the loop keeps. -/
structure CI (w wr : World) (h : Nat) (A : Option Addr) (N c : Nat) (M : List UInt8) (lim : Nat) (pa pb : Nat) (la lb : List Nat) (v v' : Value) (s' : Sx) (bad' : Nat) : Prop where
  rs : RS wr h A N c M lim v' s' bad'
  mv : Moves w wr h h v v'
  fa : RC wr h v' pa la
  fb : RC wr h v' pb lb
theorem CI.step {w wr w' : World} {pa pb : Nat} {la lb : List Nat} {v' v2 : Value} {s' s2 : Sx} {bad' bad2 : Nat} (g : CI w wr h A N c M lim pa pb la lb v v' s' bad') (hr : RS w' h A N c M lim v2 s2 bad2) (hm : Moves wr w' h h v' v2) : CI w w' h A N c M lim pa pb la lb v v2 s2 bad2 :=
  ⟨hr, g.mv.trans hm, g.fa.moves hm, g.fb.moves hm⟩
theorem CI.drew {w wr : World} {pa pb : Nat} {la lb : List Nat} {v' : Value} {s' : Sx} {bad' : Nat} (g : CI w wr h A N c M lim pa pb la lb v v' s' bad') : CI w wr.drew h A N c M lim pa pb la lb v v' s' bad' :=
  g.step (g.rs.still (drew_grown wr)) (Moves.grown v' (drew_grown wr) (.inl rfl))

set_option maxHeartbeats 8000000 in
set_option maxRecDepth 20000 in
theorem rcoded_any (pa pb : Nat) (la lb : List Nat) (F : Nat) (w : World) (g : RS w h A N c M lim v s 0) (ha : RC w h v pa la) (hb : RC w h v pb lb) (hF : N - s.pos < F) (hsp : s.steps ≤ s.pos) (hol : s.out.length ≤ lim) :
    Calls Tryd.prog 21 #[.pointer (some ⟨h, 0, none⟩), .slice (some ⟨pa, 0, none⟩) la.length la.length, .slice (some ⟨pb, 0, none⟩) lb.length lb.length] w (ROut w h A N c M lim v (loopX (letterX la lb) F M lim s) unit unitE) := by
  obtain ⟨X, HX⟩ : ∃ X, RowKit.Hid (loopX (letterX la lb) F M lim s = X) := ⟨_, Lib.hid rfl⟩
  rw [HX.out]
  have HI : RowKit.Hid (CI w w h A N c M lim pa pb la lb v v s 0) := Lib.hid ⟨g, Moves.refl w h h v, ha, hb⟩
  have HLA := Lib.hid (And.intro ha.len hb.len)
  have H0 := Lib.hid (And.intro hF (And.intro hsp hol))
  obtain ⟨na, hna⟩ : ∃ na, la.length = na := ⟨_, rfl⟩
  obtain ⟨nb, hnb⟩ : ∃ nb, lb.length = nb := ⟨_, rfl⟩
  rw [hna, hnb]
  have HNA := Lib.hid (And.intro hna hnb)
  clear g ha hb hF hsp hol hna hnb
  go_enter Tryd.func21, Tryd.ntmps21
  go_wp2_with fail
  go_loopw [6] (fun _ wr => ∃ (v' : Value) (s' : Sx) (bad' : Nat), CI w wr h A N c M lim pa pb la lb v v' s' bad' ∧ ((bad' = 0 ∧ s'.steps ≤ s'.pos ∧ s'.out.length ≤ lim ∧ ∃ F', N - s'.pos < F' ∧ loopX (letterX la lb) F' M lim s' = X) ∨ (bad' ≠ 0 ∧ X = .error bad'))) (fun _ wr => measC h N wr)
  case atStart => exact ⟨v, s, 0, HI.out, .inl ⟨rfl, H0.out.2.1, H0.out.2.2, F, H0.out.1, HX.out⟩⟩
  case round =>
    clear HI HX H0
    obtain ⟨v', s', bad', hI, ⟨rfl, hsp, hol, F', hF', hX'⟩ | ⟨hbad, hX'⟩⟩ := hrel
    rotate_left
    · have c5 := hI.rs.cell5
      have eb : ((bad' : Int) == 0) = false := by rw [beq_eq_false_iff_ne]; omega
      have eb2 : ¬ (bad' : Int) = 0 := by omega
      have HI := Lib.hid hI
      clear hI
      go_wp2_with fail
      go_end0
      exact .inr ⟨bad', s', v', hX', hbad, HI.out.rs, HI.out.mv, rfl⟩
    obtain ⟨F1, rfl⟩ : ∃ F1, F' = F1 + 1 := ⟨F' - 1, by omega⟩
    have c5 : wr.cell? ⟨h, 5, none⟩ = some (.int .i64 0) := hI.rs.cell5
    have c4 := hI.rs.cell4
    have f4 := hI.rs.row.thawed 4
    have hst : s'.steps ≤ 8000000 := by have := hI.rs.le; have := hI.rs.nn; omega
    have hs1 := hI.rs.set 4 (.int .i64 ((s'.steps : Int) + 1)) (s' := ⟨s'.pos, s'.out, s'.steps + 1⟩) (bad' := 0) (by simp) hI.rs.le rfl (show s'.steps + 1 ≤ s'.pos + 1 by omega)
    have HI1 := Lib.hid (hI.step hs1.1 hs1.2)
    have HMZ := Lib.hid hI.rs.meas0
    have HF1 : RowKit.Hid (N - s'.pos ≤ F1) := Lib.hid (by omega)
    have HX1 := Lib.hid hX'
    have HSP := Lib.hid hsp
    have HOL := Lib.hid hol
    clear hI hs1 hF' hX' hsp hol
    go_wp2_with fail
    generalize wr.setCell ⟨h, 4, none⟩ (.int .i64 ((s'.steps : Int) + 1)) = w1 at HI1 ⊢
    clear c5 c4 f4 hst
    have HSA := Lib.hid (rsign_any pa la w1 HI1.out.rs HI1.out.fa)
    rw [HNA.out.1] at HSA
    refine HSA.out.mono ?_
    clear HSA
    rintro e w2 (⟨x, s2, v2, hx2, hg2, hm2, he2⟩ | ⟨k2, s2, v2, hx2, hk2, hg2, hm2, he2⟩)
    rotate_left
    · obtain rfl := he2
      have HI2 := Lib.hid (HI1.out.step hg2 hm2)
      have c5 := hg2.cell5
      have eb : ((k2 : Int) == 0) = false := by rw [beq_eq_false_iff_ne]; omega
      have eb2 : ¬ (k2 : Int) = 0 := by omega
      have HXE : RowKit.Hid (X = .error k2) := Lib.hid (by rw [← HX1.out]; exact loop_no (ok_bind (f := stepX) rfl (err_bind hx2)))
      clear hg2 hm2 hx2 HI1
      go_wp2_with fail
      (try simp only [Exit.inBlock, Exit.then])
      refine bodyPost_ret (results_none rfl _ _ _) rfl ?_
      exact .inr ⟨k2, s2, v2, HXE.out, hk2, HI2.out.rs, HI2.out.mv, rfl⟩
    obtain rfl := he2
    have hsf := sign_facts hx2
    have HI2 := Lib.hid (HI1.out.step hg2 hm2)
    have HL : RowKit.Hid (letterX la lb M lim s' = letterK lb x M lim s2) := Lib.hid (by
      unfold letterX
      refine ok_bind (f := stepX) rfl (ok_bind hx2 ?_)
      rw [far_eq]
      rfl)
    have HP2 : RowKit.Hid (s'.pos < s2.pos ∧ s2.pos ≤ N ∧ s2.out = s'.out ∧ s2.steps = s'.steps + 1) := Lib.hid ⟨hsf.2.1, hg2.le, hsf.2.2.1, hsf.2.2.2⟩
    have hx320 : x < 320 := by have := HLA.out.1; omega
    have c5 : w2.cell? ⟨h, 5, none⟩ = some (.int .i64 0) := hg2.cell5
    clear hsf hg2 hm2 hx2 HI1
    unfold letterK at HL
    by_cases h256 : x = 256
    · subst h256
      rw [if_pos rfl] at HL
      have HXE : RowKit.Hid (X = .ok ((), s2)) := Lib.hid (by rw [← HX1.out]; exact loop_end HL.out)
      go_wp2_with fail
      (try simp only [Exit.inBlock, Exit.then])
      refine bodyPost_ret (results_none rfl _ _ _) rfl ?_
      exact .inl ⟨(), s2, v2, HXE.out, HI2.out.rs, HI2.out.mv, rfl⟩
    rw [if_neg h256] at HL
    have hn256 : ((x : Int) == 256) = false := by rw [beq_eq_false_iff_ne]; omega
    have hn256' : ¬ (x : Int) = 256 := by omega
    by_cases hlt : x < 256
    · rw [if_pos hlt] at HL
      have hd : decide ((x : Int) < 256) = true := decide_eq_true (by omega)
      have hd' : (x : Int) < 256 := by omega
      obtain ⟨Ao, co, hvo⟩ := HI2.out.rs.own.slice
      obtain ⟨lo, hlo⟩ : ∃ lo, s2.out.length = lo := ⟨_, rfl⟩
      have c2 := HI2.out.rs.cell2
      rw [hvo, hlo] at c2
      have c3 := HI2.out.rs.cell3
      have hlm := HI2.out.rs.lm
      have hll : lo ≤ lim := by rw [← hlo, HP2.out.2.2.1]; exact HOL.out
      have HLO := Lib.hid hlo
      clear hvo hlo
      have hx8 : (x : Int) % 256 = (x : Int) := by omega
      have hxt : ((UInt8.ofNat x).toNat : Int) = (x : Int) := by rw [of_lt hlt]
      have HI3 := Lib.hid HI2.out.drew
      by_cases hroom : lim < lo + 1
      · have hdr : decide ((lim : Int) < (lo : Int) + 1) = true := decide_eq_true (by omega)
        have hdr' : (lim : Int) < (lo : Int) + 1 := by omega
        have HXE : RowKit.Hid (X = .error 3) := Lib.hid (by
          rw [← HX1.out]
          refine loop_no ?_
          rw [HL.out]
          refine err_bind ?_
          unfold putX
          rw [if_pos (by rw [HLO.out]; exact hroom)])
        go_wp2_with fail
        go_still_tail 12, (by kernel_rfl)
        change wpList _ _ _ _ _ w2.drew
        clear c2 c3 c5
        generalize w2.drew = w3 at HI3 ⊢
        go_wp2_with fail
        refine (rwrong_yes _ (by first | rfl | (simp; omega)) 3 _ rfl w3 HI3.out.rs).mono ?_
        rintro e w4 ⟨rfl, hg4, hm4, _⟩
        have HI4 := Lib.hid (HI3.out.step hg4 hm4)
        clear hg4 hm4
        go_wp2_with fail
        rw [← hxt]
        refine (rput_one (UInt8.ofNat x) w4 HI4.out.rs (by rw [HLO.out]; exact hll)).mono ?_
        rintro e w5 ⟨rfl, v5, hg5, hm5⟩
        have HI5 := Lib.hid (HI4.out.step hg5 hm5)
        have HMB := Lib.hid (hg5.measB (by decide))
        clear hg5 hm5
        go_wp2_with fail
        go_roundw
        case rel => exact ⟨v5, _, 3, HI5.out, .inr ⟨by decide, HXE.out⟩⟩
        case measure => rw [HMB.out, HMZ.out]; omega
      · have hdr : decide ((lim : Int) < (lo : Int) + 1) = false := decide_eq_false (by omega)
        have hdr' : ¬ (lim : Int) < (lo : Int) + 1 := by omega
        have HXN : RowKit.Hid (loopX (letterX la lb) F1 M lim ⟨s2.pos, s2.out ++ [UInt8.ofNat x], s2.steps⟩ = X) := Lib.hid (by
          rw [← HX1.out]
          refine (loop_go ?_).symm
          rw [HL.out]
          refine ok_bind (a := ()) (s1 := ⟨s2.pos, s2.out ++ [UInt8.ofNat x], s2.steps⟩) ?_ rfl
          unfold putX
          rw [if_neg (by rw [HLO.out]; exact hroom)])
        go_wp2_with fail
        go_still_tail 12, (by kernel_rfl)
        change wpList _ _ _ _ _ w2.drew
        clear c2 c3 c5
        generalize w2.drew = w3 at HI3 ⊢
        go_wp2_with fail
        refine (rwrong_no _ _ w3 HI3.out.rs (.inr (by first | rfl | (simp; omega)))).mono ?_
        rintro e wz ⟨rfl, rfl⟩
        go_wp2_with fail
        rw [← hxt]
        refine (rput_one (UInt8.ofNat x) w3 HI3.out.rs (by rw [HLO.out]; exact hll)).mono ?_
        rintro e w5 ⟨rfl, v5, hg5, hm5⟩
        have HI5 := Lib.hid (HI3.out.step hg5 hm5)
        have HMB := Lib.hid hg5.meas0
        clear hg5 hm5
        go_wp2_with fail
        go_roundw
        case rel => exact ⟨v5, _, 0, HI5.out, .inl ⟨rfl, by show s2.steps ≤ s2.pos; have := HP2.out; have := HSP.out; omega, by rw [List.length_append, HLO.out]; show lo + 1 ≤ lim; omega, F1, by show N - s2.pos < F1; have := HP2.out; have := HF1.out; omega, HXN.out⟩⟩
        case measure => rw [HMB.out, HMZ.out]; show N - s2.pos + 1 < _; have := HP2.out; omega
    rw [if_neg hlt] at HL
    have hd : decide ((x : Int) < 256) = false := decide_eq_false (by omega)
    have hd' : ¬ (x : Int) < 256 := by omega
    have hx257 : 257 ≤ x := by omega
    unfold farK at HL
    clear h256 hlt
    have HLL : RowKit.Hid (∀ k, lengthX x M lim s2 = .error k → X = .error k) := Lib.hid (fun k hk => by
      rw [← HX1.out]
      refine loop_no ?_
      rw [HL.out]
      exact err_bind hk)
    by_cases h285 : 285 < x
    · have hd3 : decide (285 < (x : Int)) = true := decide_eq_true (by omega)
      have hd3' : 285 < (x : Int) := by omega
      have HXE : RowKit.Hid (X = .error 2) := Lib.hid (HLL.out 2 (by unfold lengthX; rw [if_pos h285]; rfl))
      go_wp2_with fail
      refine (rwrong_yes _ (by first | rfl | (simp; omega)) 2 _ rfl w2 HI2.out.rs).mono ?_
      rintro e w3 ⟨rfl, hg3, hm3, _⟩
      have HI3 := Lib.hid (HI2.out.step hg3 hm3)
      have c5b : w3.cell? ⟨h, 5, none⟩ = some (.int .i64 2) := hg3.cell5
      clear hg3 hm3 c5
      go_wp2_with fail
      (try simp only [Exit.inBlock, Exit.then])
      refine bodyPost_ret (results_none rfl _ _ _) rfl ?_
      exact .inr ⟨2, s2, v2, HXE.out, by decide, HI3.out.rs, HI3.out.mv, rfl⟩
    have hd3 : decide (285 < (x : Int)) = false := decide_eq_false (by omega)
    have hd3' : ¬ 285 < (x : Int) := by omega
    go_wp2_with fail
    refine (rwrong_no _ _ w2 HI2.out.rs (.inr (by first | rfl | (simp; omega)))).mono ?_
    rintro e wz ⟨rfl, rfl⟩
    go_wp2_with fail
    refine (rlen_any x hx257 (by omega) w2).mono ?_
    rintro e wz ⟨rfl, rfl⟩
    have hsm := len_small x (by omega) hx257
    have HLX : RowKit.Hid (lengthX x = bindX (numX (lenMore x)) fun y => pureX (lenBase x + y)) := Lib.hid (by unfold lengthX; rw [if_neg h285])
    obtain ⟨b0, hb0⟩ : ∃ b0, lenBase x = b0 := ⟨_, rfl⟩
    obtain ⟨m0, hm0⟩ : ∃ m0, lenMore x = m0 := ⟨_, rfl⟩
    rw [hb0, hm0] at HLX hsm
    rw [hb0, hm0]
    have hb258 : b0 ≤ 258 := hsm.1
    have hm5 : m0 ≤ 5 := hsm.2
    clear hsm hb0 hm0 h285 hd3 hd3' c5
    go_wp2_with fail
    refine (rnum_any m0 (by omega) wz HI2.out.rs).mono ?_
    rintro e w3 (⟨y, s3, v3, hx3, hg3, hm3, he3⟩ | ⟨k3, s3, v3, hx3, hk3, hg3, hm3, he3⟩)
    rotate_left
    · obtain rfl := he3
      have HXE : RowKit.Hid (X = .error k3) := Lib.hid (HLL.out k3 (by rw [HLX.out]; exact err_bind hx3))
      have HIB := Lib.hid (HI2.out.step hg3 hm3)
      have hkb := hk3
      clear hg3 hm3 hx3
      go_wp2_with fail
      refine (rsign_bad _ w3 HIB.out.rs hkb).mono ?_
      rintro e wz ⟨rfl, rfl⟩
      go_wp2_with fail
      refine (rwrong_no _ _ w3 HIB.out.rs (.inl hkb)).mono ?_
      rintro e wz ⟨rfl, rfl⟩
      have c5b := HIB.out.rs.cell5
      have eb : ((k3 : Int) == 0) = false := by rw [beq_eq_false_iff_ne]; omega
      have eb2 : ¬ (k3 : Int) = 0 := by omega
      go_wp2_with fail
      (try simp only [Exit.inBlock, Exit.then])
      refine bodyPost_ret (results_none rfl _ _ _) rfl ?_
      exact .inr ⟨k3, s3, v3, HXE.out, hkb, HIB.out.rs, HIB.out.mv, rfl⟩
    obtain rfl := he3
    have hy : y < 32 := Nat.lt_of_lt_of_le (numX_lt HI2.out.rs.bin hx3) (Nat.pow_le_pow_right (by decide) hm5)
    have hn3 := num_ok hx3
    obtain ⟨ln, hln⟩ : ∃ ln, b0 + y = ln := ⟨_, rfl⟩
    have eln : (b0 : Int) + (y : Int) = (ln : Int) := by omega
    have HL3 : RowKit.Hid (letterX la lb M lim s' = bindX (signX lb) (fun d => bindX (distanceX d) fun far => bindX (copyX ln far) fun _ => pureX false) M lim s3) := Lib.hid (by
      rw [HL.out]
      refine ok_bind (a := ln) (s1 := s3) ?_ rfl
      rw [HLX.out, ← hln]
      exact ok_bind hx3 rfl)
    have HI3 := Lib.hid (HI2.out.step hg3 hm3)
    have HP3 : RowKit.Hid (s'.pos < s3.pos ∧ s3.out = s'.out ∧ s3.steps = s'.steps + 1) := Lib.hid (by have := HP2.out; exact ⟨by omega, hn3.2.1.trans this.2.2.1, hn3.2.2.trans this.2.2.2⟩)
    have hln300 : ln ≤ 300 := by omega
    clear hg3 hm3 hx3 hn3 HI2 HL HLL HLX HP2 hln
    go_wp2_with fail
    have HSB := Lib.hid (rsign_any pb lb w3 HI3.out.rs HI3.out.fb)
    rw [HNA.out.2] at HSB
    refine HSB.out.mono ?_
    clear HSB eln
    rintro e w4 (⟨d, s4, v4, hx4, hg4, hm4, he4⟩ | ⟨k4, s4, v4, hx4, hk4, hg4, hm4, he4⟩)
    rotate_left
    · obtain rfl := he4
      have HXE : RowKit.Hid (X = .error k4) := Lib.hid (by rw [← HX1.out]; refine loop_no ?_; rw [HL3.out]; exact err_bind hx4)
      have HIB := Lib.hid (HI3.out.step hg4 hm4)
      have hkb := hk4
      clear hg4 hm4 hx4
      go_wp2_with fail
      refine (rwrong_no _ _ w4 HIB.out.rs (.inl hkb)).mono ?_
      rintro e wz ⟨rfl, rfl⟩
      have c5b := HIB.out.rs.cell5
      have eb : ((k4 : Int) == 0) = false := by rw [beq_eq_false_iff_ne]; omega
      have eb2 : ¬ (k4 : Int) = 0 := by omega
      go_wp2_with fail
      (try simp only [Exit.inBlock, Exit.then])
      refine bodyPost_ret (results_none rfl _ _ _) rfl ?_
      exact .inr ⟨k4, s4, v4, HXE.out, hkb, HIB.out.rs, HIB.out.mv, rfl⟩
    obtain rfl := he4
    have hsf := sign_facts hx4
    have hd320 : d < 320 := by have := HLA.out.2; omega
    have HL4 : RowKit.Hid (letterX la lb M lim s' = bindX (distanceX d) (fun far => bindX (copyX ln far) fun _ => pureX false) M lim s4) := Lib.hid (HL3.out.trans (bind_go hx4 rfl).symm)
    have HI4 := Lib.hid (HI3.out.step hg4 hm4)
    have HP4 : RowKit.Hid (s'.pos < s4.pos ∧ s4.out = s'.out ∧ s4.steps = s'.steps + 1) := Lib.hid (by have := HP3.out; exact ⟨by omega, hsf.2.2.1.trans this.2.1, hsf.2.2.2.trans this.2.2⟩)
    have c5 : w4.cell? ⟨h, 5, none⟩ = some (.int .i64 0) := hg4.cell5
    clear hg4 hm4 hx4 hsf HI3 HL3 HP3
    by_cases h29 : 29 < d
    · have hd3 : decide (29 < (d : Int)) = true := decide_eq_true (by omega)
      have hd3' : 29 < (d : Int) := by omega
      have HXE : RowKit.Hid (X = .error 2) := Lib.hid (by rw [← HX1.out]; refine loop_no ?_; rw [HL4.out]; refine err_bind ?_; unfold distanceX; rw [if_pos h29]; rfl)
      go_wp2_with fail
      refine (rwrong_yes _ (by first | rfl | (simp; omega)) 2 _ rfl w4 HI4.out.rs).mono ?_
      rintro e w5 ⟨rfl, hg5, hm5, _⟩
      have HI5 := Lib.hid (HI4.out.step hg5 hm5)
      have c5b : w5.cell? ⟨h, 5, none⟩ = some (.int .i64 2) := hg5.cell5
      clear hg5 hm5 c5
      go_wp2_with fail
      (try simp only [Exit.inBlock, Exit.then])
      refine bodyPost_ret (results_none rfl _ _ _) rfl ?_
      exact .inr ⟨2, s4, v4, HXE.out, by decide, HI5.out.rs, HI5.out.mv, rfl⟩
    have hd3 : decide (29 < (d : Int)) = false := decide_eq_false (by omega)
    have hd3' : ¬ 29 < (d : Int) := by omega
    go_wp2_with fail
    refine (rwrong_no _ _ w4 HI4.out.rs (.inr (by first | rfl | (simp; omega)))).mono ?_
    rintro e wz ⟨rfl, rfl⟩
    go_wp2_with fail
    refine (rdist_any d (by omega) w4).mono ?_
    rintro e wz ⟨rfl, rfl⟩
    have hds := dist_small d (by omega)
    have HDX : RowKit.Hid (distanceX d = bindX (numX (distMore d)) fun y => pureX (distSum d + y)) := Lib.hid (by unfold distanceX; rw [if_neg h29])
    obtain ⟨b1, hb1⟩ : ∃ b1, distSum d = b1 := ⟨_, rfl⟩
    obtain ⟨m1, hm1⟩ : ∃ m1, distMore d = m1 := ⟨_, rfl⟩
    rw [hb1, hm1] at HDX hds
    rw [hb1, hm1]
    have hb1a : 1 ≤ b1 := hds.1
    have hb1b : b1 ≤ 24577 := hds.2.1
    have hm13 : m1 ≤ 13 := hds.2.2
    clear hds hb1 hm1 h29 hd3 hd3' c5
    go_wp2_with fail
    refine (rnum_any m1 (by omega) wz HI4.out.rs).mono ?_
    rintro e w5 (⟨z, s5, v5, hx5, hg5, hm5', he5⟩ | ⟨k5, s5, v5, hx5, hk5, hg5, hm5', he5⟩)
    rotate_left
    · obtain rfl := he5
      have HXE : RowKit.Hid (X = .error k5) := Lib.hid (by rw [← HX1.out]; refine loop_no ?_; rw [HL4.out]; refine err_bind ?_; rw [HDX.out]; exact err_bind hx5)
      have HIB := Lib.hid (HI4.out.step hg5 hm5')
      have hkb := hk5
      clear hg5 hm5' hx5
      have c2 := HIB.out.rs.cell2
      obtain ⟨Ao, co, hvo⟩ := HIB.out.rs.own.slice
      rw [hvo] at c2
      go_wp2_with fail
      refine (rwrong_no _ _ w5 HIB.out.rs (.inl hkb)).mono ?_
      rintro e wz ⟨rfl, rfl⟩
      clear c2 hvo
      have c2 := HIB.out.rs.cell2
      obtain ⟨Ap, cp, hvp⟩ := HIB.out.rs.own.slice
      rw [hvp] at c2
      have c3 := HIB.out.rs.cell3
      go_wp2_with fail
      go_still_tail 13, (by kernel_rfl)
      change wpList _ _ _ _ _ w5.drew
      have HIB := Lib.hid HIB.out.drew
      clear c2 c3 hvp
      generalize w5.drew = w5b at HIB ⊢
      go_wp2_with fail
      refine (rwrong_no _ _ w5b HIB.out.rs (.inl hkb)).mono ?_
      rintro e wz ⟨rfl, rfl⟩
      have c5b := HIB.out.rs.cell5
      have eb : ((k5 : Int) == 0) = false := by rw [beq_eq_false_iff_ne]; omega
      have eb2 : ¬ (k5 : Int) = 0 := by omega
      have HMB := Lib.hid (HIB.out.rs.measB hkb)
      go_wp2_with fail
      go_loopw [11] (fun i wr => i = .int .i64 0 ∧ wr = w5b) (fun _ _ => 0)
      case atStart => exact ⟨rfl, rfl⟩
      case round =>
        obtain ⟨rfl, rfl⟩ := hrel
        go_wp2_with fail
        all_goals
          go_roundw
          case rel => exact ⟨v5, s5, k5, HIB.out, .inr ⟨hkb, HXE.out⟩⟩
          case measure => rw [HMB.out, HMZ.out]; omega
    obtain rfl := he5
    have hz : z < 8192 := Nat.lt_of_lt_of_le (numX_lt HI4.out.rs.bin hx5) (Nat.pow_le_pow_right (by decide) hm13)
    have hn5 := num_ok hx5
    obtain ⟨far, hfar⟩ : ∃ far, b1 + z = far := ⟨_, rfl⟩
    have efar : (b1 : Int) + (z : Int) = (far : Int) := by omega
    have HL5 : RowKit.Hid (letterX la lb M lim s' = bindX (copyX ln far) (fun _ => pureX false) M lim s5) := Lib.hid (by
      rw [HL4.out]
      refine ok_bind (a := far) (s1 := s5) ?_ rfl
      rw [HDX.out, ← hfar]
      exact ok_bind hx5 rfl)
    have HI5 := Lib.hid (HI4.out.step hg5 hm5')
    have HP5 : RowKit.Hid (s'.pos < s5.pos ∧ s5.pos ≤ N ∧ s5.out = s'.out ∧ s5.steps = s'.steps + 1) := Lib.hid (by have := HP4.out; exact ⟨by omega, hg5.le, hn5.2.1.trans this.2.1, hn5.2.2.trans this.2.2⟩)
    have hfar1 : 1 ≤ far := by omega
    have hfar2 : far ≤ 40000 := by omega
    clear hg5 hm5' hx5 hn5 HI4 HL4 HDX HP4 hfar
    obtain ⟨Ao, co, hvo⟩ := HI5.out.rs.own.slice
    obtain ⟨lo, hlo⟩ : ∃ lo, s5.out.length = lo := ⟨_, rfl⟩
    have c2 := HI5.out.rs.cell2
    rw [hvo, hlo] at c2
    have hlm := HI5.out.rs.lm
    have hll : lo ≤ lim := by rw [← hlo, HP5.out.2.2.1]; exact HOL.out
    have HLO := Lib.hid hlo
    have HVO := Lib.hid hvo
    clear hvo hlo
    by_cases hff : lo < far
    · have hd3 : decide ((lo : Int) < (far : Int)) = true := decide_eq_true (by omega)
      have HXE : RowKit.Hid (X = .error 2) := Lib.hid (by rw [← HX1.out]; refine loop_no ?_; rw [HL5.out]; refine err_bind ?_; unfold copyX; rw [if_pos (by rw [HLO.out]; exact hff)])
      go_wp2_with fail
      refine (rwrong_yes _ (by first | rfl | (simp; omega)) 2 _ rfl w5 HI5.out.rs).mono ?_
      rintro e w6 ⟨rfl, hg6, hm6, _⟩
      have HIB := Lib.hid (HI5.out.step hg6 hm6)
      have hkb : 2 ≠ 0 := by decide
      clear hg6 hm6 efar c2 hd3
      have c2 := HIB.out.rs.cell2
      obtain ⟨Ap, cp, hvp⟩ := HIB.out.rs.own.slice
      rw [hvp] at c2
      have c3 := HIB.out.rs.cell3
      go_wp2_with fail
      go_still_tail 13, (by kernel_rfl)
      change wpList _ _ _ _ _ w6.drew
      have HIB := Lib.hid HIB.out.drew
      clear c2 c3 hvp
      generalize w6.drew = w6b at HIB ⊢
      go_wp2_with fail
      refine (rwrong_no _ _ w6b HIB.out.rs (.inl hkb)).mono ?_
      rintro e wz ⟨rfl, rfl⟩
      have c5b := HIB.out.rs.cell5
      have eb : ((2 : Int) == 0) = false := by rw [beq_eq_false_iff_ne]; omega
      have eb2 : ¬ (2 : Int) = 0 := by omega
      have HMB := Lib.hid (HIB.out.rs.measB hkb)
      go_wp2_with fail
      go_loopw [11] (fun i wr => i = .int .i64 0 ∧ wr = w6b) (fun _ _ => 0)
      case atStart => exact ⟨rfl, rfl⟩
      case round =>
        obtain ⟨rfl, rfl⟩ := hrel
        go_wp2_with fail
        all_goals
          go_roundw
          case rel => exact ⟨v5, s5, 2, HIB.out, .inr ⟨hkb, HXE.out⟩⟩
          case measure => rw [HMB.out, HMZ.out]; omega
    have hd3 : decide ((lo : Int) < (far : Int)) = false := decide_eq_false (by omega)
    go_wp2_with fail
    refine (rwrong_no _ _ w5 HI5.out.rs (.inr (by first | rfl | (simp; omega)))).mono ?_
    rintro e wz ⟨rfl, rfl⟩
    clear efar hd3
    have c3 := HI5.out.rs.cell3
    obtain ⟨lt, hlt⟩ : ∃ lt, lo + ln = lt := ⟨_, rfl⟩
    have elt : (lo : Int) + (ln : Int) = (lt : Int) := by omega
    have eltw : IntKind.i64.wrap (lt : Int) = (lt : Int) := wrap64_in _ (by omega) (by omega)
    have HI6 := Lib.hid HI5.out.drew
    by_cases hroom : lim < lt
    · have hd3 : decide ((lim : Int) < (lt : Int)) = true := decide_eq_true (by omega)
      have HXE : RowKit.Hid (X = .error 3) := Lib.hid (by rw [← HX1.out]; refine loop_no ?_; rw [HL5.out]; refine err_bind ?_; unfold copyX; rw [if_neg (by rw [HLO.out]; exact hff), if_pos (by rw [HLO.out, hlt]; exact hroom)])
      go_wp2_with fail
      go_still_tail 13, (by kernel_rfl)
      change wpList _ _ _ _ _ w5.drew
      clear c2 c3
      generalize w5.drew = w6 at HI6 ⊢
      go_wp2_with fail
      refine (rwrong_yes _ (by first | rfl | (simp; omega)) 3 _ rfl w6 HI6.out.rs).mono ?_
      rintro e w7 ⟨rfl, hg7, hm7, _⟩
      have HIB := Lib.hid (HI6.out.step hg7 hm7)
      have hkb : 3 ≠ 0 := by decide
      clear hg7 hm7 elt eltw hd3
      have c5b := HIB.out.rs.cell5
      have eb : ((3 : Int) == 0) = false := by rw [beq_eq_false_iff_ne]; omega
      have eb2 : ¬ (3 : Int) = 0 := by omega
      have HMB := Lib.hid (HIB.out.rs.measB hkb)
      go_wp2_with fail
      go_loopw [11] (fun i wr => i = .int .i64 0 ∧ wr = w7) (fun _ _ => 0)
      case atStart => exact ⟨rfl, rfl⟩
      case round =>
        obtain ⟨rfl, rfl⟩ := hrel
        go_wp2_with fail
        all_goals
          go_roundw
          case rel => exact ⟨v5, s5, 3, HIB.out, .inr ⟨hkb, HXE.out⟩⟩
          case measure => rw [HMB.out, HMZ.out]; omega
    have hd3 : decide ((lim : Int) < (lt : Int)) = false := decide_eq_false (by omega)
    have hd3' : ¬ lim < lt := hroom
    have HXN : RowKit.Hid (loopX (letterX la lb) F1 M lim ⟨s5.pos, copyL far ln s5.out, s5.steps⟩ = X) := Lib.hid (by
      rw [← HX1.out]
      refine (loop_go ?_).symm
      rw [HL5.out]
      refine ok_bind (a := ()) (s1 := ⟨s5.pos, copyL far ln s5.out, s5.steps⟩) ?_ rfl
      unfold copyX
      rw [if_neg (by rw [HLO.out]; exact hff), if_neg (by rw [HLO.out, hlt]; exact hroom)])
    go_wp2_with fail
    go_still_tail 13, (by kernel_rfl)
    change wpList _ _ _ _ _ w5.drew
    clear c2 c3
    generalize w5.drew = w6 at HI6 ⊢
    go_wp2_with fail
    refine (rwrong_no _ _ w6 HI6.out.rs (.inr (by first | rfl | (simp; omega)))).mono ?_
    rintro e wz ⟨rfl, rfl⟩
    clear elt eltw hd3
    go_wp2_with fail
    go_loopw [11] (fun i wr => ∃ (j : Nat) (v' : Value) (o' : List UInt8), j ≤ ln ∧ i = .int .i64 (j : Int) ∧ CI w wr h A N c M lim pa pb la lb v v' ⟨s5.pos, o', s5.steps⟩ 0 ∧ o'.length = lo + j ∧ copyL far (ln - j) o' = copyL far ln s5.out) (fun i _ => ln - (intOf i).toNat)
    case atStart => exact ⟨0, v5, s5.out, Nat.zero_le _, rfl, HI6.out, by rw [HLO.out]; rfl, rfl⟩
    case round =>
      clear HI6 HI5
      obtain ⟨j, v', o', hj, rfl, hIj, hl2, hc2⟩ := hrel
      have c5 : wr.cell? ⟨h, 5, none⟩ = some (.int .i64 0) := hIj.rs.cell5
      have HIJ := Lib.hid hIj
      by_cases hjl : j < ln
      rotate_left
      · obtain rfl : j = ln := by omega
        have hdj : decide ((j : Int) < (j : Int)) = false := decide_eq_false (by omega)
        have HC3 : RowKit.Hid (o' = copyL far j s5.out) := Lib.hid (by rw [← hc2, Nat.sub_self]; rfl)
        have HMB := Lib.hid hIj.rs.meas0
        have HL2 := Lib.hid hl2
        clear hIj hc2 hl2
        go_wp2_with fail
        go_roundw
        case rel => exact ⟨v', ⟨s5.pos, o', s5.steps⟩, 0, HIJ.out, .inl ⟨rfl, by show s5.steps ≤ s5.pos; have := HP5.out; have := HSP.out; omega, by show o'.length ≤ lim; rw [HL2.out]; omega, F1, by show N - s5.pos < F1; have := HP5.out; have := HF1.out; omega, by rw [HC3.out]; exact HXN.out⟩⟩
        case measure => rw [HMB.out, HMZ.out]; show N - s5.pos + 1 < _; have := HP5.out; omega
      obtain ⟨b, c', xx, rfl, hxx, hc⟩ := hIj.rs.own.at8 (k := o'.length - far) (show o'.length - far < o'.length by omega)
      have cc := hIj.rs.cell2
      have HXX := Lib.hid hxx
      have HL2 := Lib.hid hl2
      have HC2 := Lib.hid hc2
      obtain ⟨m, hmm⟩ : ∃ m, o'.length = m := ⟨_, rfl⟩
      have HMM := Lib.hid hmm
      have HID := Lib.hid hIj.drew
      rw [hmm] at cc hc hl2 HID
      obtain ⟨p, hp⟩ : ∃ p, m - far = p := ⟨_, rfl⟩
      rw [hp] at hc
      have e1 : (m : Int) - (far : Int) = (p : Int) := by omega
      have e2 : IntKind.i64.wrap (p : Int) = (p : Int) := wrap64_in _ (by omega) (by omega)
      have e3 : p < m := by omega
      have hdj : decide ((j : Int) < (ln : Int)) = true := decide_eq_true (by omega)
      have HOO : RowKit.Hid (o'.length ≤ lim) := Lib.hid (by rw [hmm]; omega)
      clear hIj hc2 hxx hp hmm hl2 HIJ
      go_wp2_with fail
      go_still_tail 14, (by kernel_rfl)
      change wpList _ _ _ _ _ wr.drew
      clear cc hc c5
      generalize wr.drew = w8 at HID ⊢
      go_wp2_with fail
      refine (rput_one xx w8 HID.out.rs HOO.out).mono ?_
      rintro e w9 ⟨rfl, v9, hg9, hm9⟩
      have HI9 := Lib.hid (HID.out.step hg9 hm9)
      clear hg9 hm9
      go_wp2_with fail
      go_roundw
      case rel => exact ⟨j + 1, v9, o' ++ [xx], by omega, by simp, HI9.out, by rw [List.length_append, HL2.out]; rfl, by rw [← HC2.out, show ln - j = (ln - (j + 1)) + 1 by omega, copyL_step HXX.out]⟩
      case measure => simp [intOf]; omega
end Go.Proofs.YtjipjclbhdgkoaaDoor
