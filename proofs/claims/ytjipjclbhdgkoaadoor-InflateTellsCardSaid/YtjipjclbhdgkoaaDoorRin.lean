/- Contract of the reference's Inflate, given that of told. -/
import Derived.Test.YtjipjclbhdgkoaaDoorRcd2
import Derived.Test.YtjipjclbhdgkoaaDoorRco
import Derived.Test.YtjipjclbhdgkoaaDoorRfx
import Derived.Test.YtjipjclbhdgkoaaDoorMfx
namespace Go.Proofs.YtjipjclbhdgkoaaDoor
open Go.RowKit

variable {h : Nat} {A : Option Addr} {N c : Nat} {M : List UInt8} {lim : Nat} {v : Value} {s : Sx} {bad : Nat}
set_option maxHeartbeats 1000000 in
theorem rcoded_bad (x y : Value) (w : World) (g : RS w h A N c M lim v s bad) (hb : bad ≠ 0) : Calls Tryd.prog 21 #[.pointer (some ⟨h, 0, none⟩), x, y] w fun e w' => e = .returned (.tuple #[]) ∧ w = w' := by
  have c5 := g.cell5
  have e1 : ((bad : Int) == 0) = false := by rw [beq_eq_false_iff_ne]; omega
  have e2 : ¬ (bad : Int) = 0 := by omega
  clear g
  go_enter Tryd.func21, Tryd.ntmps21
  go_wp2_with fail
  go_loopw [6] (fun _ wr => wr = w) (fun _ _ => 0)
  case atStart => rfl
  case round =>
    obtain rfl := hrel
    go_wp2_with fail
    go_end0
    exact ⟨rfl, rfl⟩
def rtoldP (h : Nat) (p : List Nat × List Nat) (e : Ending) (w' : World) (v' : Value) : Prop :=
  ∃ pa pb, e = .returned (.tuple #[.slice (some ⟨pa, 0, none⟩) p.1.length p.1.length, .slice (some ⟨pb, 0, none⟩) p.2.length p.2.length]) ∧ RC w' h v' pa p.1 ∧ RC w' h v' pb p.2
def rtoldQ (e : Ending) : Prop := ∃ x y, e = .returned (.tuple #[x, y])
/-- What is asked of told. -/
def ToldC : Prop := ∀ (h : Nat) (A : Option Addr) (N c : Nat) (M : List UInt8) (lim : Nat) (v : Value) (s : Sx) (w : World), RS w h A N c M lim v s 0 → s.steps ≤ s.pos → s.out.length ≤ lim →
  Calls Tryd.prog 23 #[.pointer (some ⟨h, 0, none⟩)] w (ROut w h A N c M lim v (toldX M lim s) (rtoldP h) rtoldQ)
/-- What the loop keeps. -/
structure II (w wr : World) (h : Nat) (A : Option Addr) (N c : Nat) (M : List UInt8) (lim : Nat) (v' : Value) (s' : Sx) (bad' : Nat) : Prop where
  rs : RS wr h A N c M lim v' s' bad'
  bel : Below w.heap.size w wr
  hw : w.heap.size ≤ h
theorem II.step {w wr w' : World} {v' v2 : Value} {s' s2 : Sx} {bad' bad2 : Nat} (g : II w wr h A N c M lim v' s' bad') (hr : RS w' h A N c M lim v2 s2 bad2) (hm : Moves wr w' h h v' v2) : II w w' h A N c M lim v2 s2 bad2 :=
  ⟨hr, ⟨hm.os.trans g.bel.os, hm.tape.trans g.bel.tape, hm.output.trans g.bel.output, Nat.le_trans g.bel.size hm.size, fun k hk => (hm.block k (Nat.lt_of_lt_of_le hk g.bel.size) (by have := g.hw; omega) (by have := g.hw; omega) (g.rs.ne (by have := g.hw; omega))).trans (g.bel.block k hk)⟩, g.hw⟩
theorem results_four {P : Program} {fn : Func} {p q r t : Tmp} (h : fn.results = #[.tmp p, .tmp q, .tmp r, .tmp t]) (tmps : Array Value) (w : World) (u v x y : Value) (hp : tmps.getD p undef = u) (hq : tmps.getD q undef = v) (hr : tmps.getD r undef = x) (ht : tmps.getD t undef = y) :
    (results fn tmps).run P w = .ok (.tuple #[u, v, x, y]) w := by
  have hp' : tmps[p]?.getD undef = u := by simpa using hp
  have hq' : tmps[q]?.getD undef = v := by simpa using hq
  have hr' : tmps[r]?.getD undef = x := by simpa using hr
  have ht' : tmps[t]?.getD undef = y := by simpa using ht
  simp [results, h, hp', hq', hr', ht']
/-- What the reference's Inflate leaves. -/
def RIn (w : World) (l : List UInt8) (lim : Nat) (e : Ending) (w' : World) : Prop :=
  Below w.heap.size w w' ∧
    ((∃ k, inflF (8 * l.length + 1) (bitsL l) lim = .error k ∧ k ≠ 0 ∧ e = .returned (.tuple #[.slice none 0 0, .int .i64 0, .int .i64 0, .int .i64 (k : Int)])) ∨
     (∃ s u, inflF (8 * l.length + 1) (bitsL l) lim = .ok ((), s) ∧ e = .returned (.tuple #[u, .int .i64 (((s.pos + 7) / 8 : Nat) : Int), .int .i64 (s.steps : Int), .int .i64 0]) ∧ Own w' w.heap.size u s.out))

set_option maxHeartbeats 8000000 in
set_option maxRecDepth 20000 in
theorem rinflate_any (hTC : ToldC) (A0 : Option Addr) (n c0 : Nat) (l : List UInt8) (lim : Nat) (w : World) (hr : Rd w w.heap.size A0 n (us l)) (hn : n ≤ 1000) (hlim : lim ≤ 1048576) :
    Calls Tryd.prog 9 #[.slice A0 n c0, .int .i64 (lim : Int)] w (RIn w l lim) := by
  have HL : RowKit.Hid (l.length = n) := Lib.hid (by have := hr.1; rwa [us_length] at this)
  have HTC := Lib.hid hTC
  have HR := Lib.hid hr
  have d0 : decide ((lim : Int) < 0) = false := decide_eq_false (by omega)
  have d1 : decide (1048576 < (lim : Int)) = false := decide_eq_false (by omega)
  clear hr hTC
  go_enter Tryd.func9, Tryd.ntmps9
  go_wp2_with fail
  refine (rof_any A0 n c0 l w HR.out (by omega)).mono ?_
  rintro e w1 ⟨vL, rfl, hgr⟩
  have hlen : (bitsL l).length = 8 * n := by rw [bitsL_length, HL.out]
  obtain ⟨A, c, hvL⟩ := hgr.own.slice
  have hform : (A = none ∧ 8 * n = 0 ∧ c = 0) ∨ ∃ b, A = some ⟨b, 0, none⟩ := by
    rcases hgr.own.2 with ⟨h1, h2⟩ | ⟨b, cap, cur, h1, _⟩
    · rw [hvL] at h1; injection h1 with h3 _ h4; exact .inl ⟨h3, by rw [← hlen]; exact h2, h4⟩
    · rw [hvL] at h1; injection h1 with h3; exact .inr ⟨b, h3⟩
  have hnc : 8 * n ≤ c := by
    rcases hgr.own.2 with ⟨h1, h2⟩ | ⟨b, cap, cur, h1, _, _, h2, _⟩
    · rw [← hlen, h2]; exact Nat.zero_le _
    · rw [hvL] at h1; injection h1 with _ _ h3; rw [← hlen, h3]; exact h2
  rw [hlen] at hvL
  subst hvL
  have hrd := hgr.own.rd.2
  have hga := World.grownBy_alloc w1 (.cells #[.slice A (8 * n) c, .int .i64 0, .slice none 0 0, .int .i64 (lim : Int), .int .i64 0, .int .i64 0] 54) none
  obtain ⟨h, hh⟩ : ∃ h, w1.heap.size = h := ⟨_, rfl⟩
  have hrow := Row.new w1 #[.slice A (8 * n) c, .int .i64 0, .slice none 0 0, .int .i64 (lim : Int), .int .i64 0, .int .i64 0] 54
  rw [hh] at hrow hrd
  have hII : II w (w1.alloc (.cells #[.slice A (8 * n) c, .int .i64 0, .slice none 0 0, .int .i64 (lim : Int), .int .i64 0, .int .i64 0] 54)) h A (8 * n) c (bitsL l) lim (.slice none 0 0) ⟨0, [], 0⟩ 0 :=
    ⟨⟨hrow, hrd.below ⟨hga.os, hga.tape, hga.output, hga.size, fun k hk => hga.block k (by omega) (by simp)⟩, hnc, bin_bitsL l, by omega, Nat.zero_le _, Own.nil _ _, Nat.zero_le _, Nat.zero_le _, hlim, by omega, hform⟩, hgr.below.grown hga hgr.below.size (fun _ h => by cases h), by rw [← hh]; exact hgr.below.size⟩
  obtain ⟨X, HX⟩ : ∃ X, RowKit.Hid (inflF (8 * n + 1) (bitsL l) lim = X) := ⟨_, Lib.hid rfl⟩
  have HI := Lib.hid hII
  obtain ⟨v8, hv8⟩ : ∃ v8, 8 * n = v8 := ⟨_, rfl⟩
  rw [hv8]
  rw [hv8] at HI HX
  have HHH := Lib.hid hh
  have HV8 := Lib.hid hv8
  have hv8b : v8 ≤ 8000 := by omega
  obtain ⟨M, hM⟩ : ∃ M, bitsL l = M := ⟨_, rfl⟩
  rw [hM] at HI HX
  have HMM := Lib.hid hM
  have HBM : RowKit.Hid (Bits M) := Lib.hid (by rw [← hM]; exact ⟨bin_bitsL l, by rw [bitsL_length]; omega⟩)
  clear hgr hlen hform hnc hrd hga hrow hII hh hv8 hM d0 d1
  go_wp2_with fail
  rw [HHH.out]
  generalize w1.alloc (.cells #[.slice A v8 c, .int .i64 0, .slice none 0 0, .int .i64 (lim : Int), .int .i64 0, .int .i64 0] 54) = w2 at HI ⊢
  go_loopw [9] (fun _ wr => ∃ (v' : Value) (s' : Sx) (bad' : Nat), II w wr h A v8 c M lim v' s' bad' ∧ ((bad' = 0 ∧ s'.steps ≤ s'.pos ∧ s'.out.length ≤ lim ∧ ∃ F', v8 - s'.pos < F' ∧ loopX (blockX (v8 + 1)) F' M lim s' = X) ∨ (bad' ≠ 0 ∧ X = .error bad'))) (fun _ wr => measC h v8 wr)
  case atStart => exact ⟨_, _, 0, HI.out, .inl ⟨rfl, Nat.le_refl _, Nat.zero_le _, v8 + 1, by omega, HX.out⟩⟩
  case round =>
    clear HI
    obtain ⟨v', s', bad', hI, ⟨rfl, hsp, hol, F', hF', hX'⟩ | ⟨hbad, hX'⟩⟩ := hrel
    rotate_left
    · have c5 := hI.rs.cell5
      have eb : ((bad' : Int) == 0) = false := by rw [beq_eq_false_iff_ne]; omega
      have eb2 : ¬ (bad' : Int) = 0 := by omega
      have HI := Lib.hid hI
      have HXX : RowKit.Hid (inflF (8 * l.length + 1) (bitsL l) lim = .error bad') := Lib.hid (by rw [HL.out, HV8.out, HMM.out, HX.out]; exact hX')
      clear hI hX'
      go_wp2_with fail
      go_still (by kernel_rfl)
      change Exit.then _ _ _ _ wr.drew
      have HB := Lib.hid (HI.out.bel.grown (drew_grown wr) HI.out.bel.size (fun _ h => by cases h))
      generalize wr.drew = w9 at HB ⊢
      go_wp2_with fail
      refine bodyPost_ret (results_four rfl _ _ _ _ _ _ rfl rfl rfl rfl) rfl ?_
      exact ⟨HB.out, .inl ⟨bad', HXX.out, hbad, rfl⟩⟩
    obtain ⟨F1, rfl⟩ : ∃ F1, F' = F1 + 1 := ⟨F' - 1, by omega⟩
    have c5 : wr.cell? ⟨h, 5, none⟩ = some (.int .i64 0) := hI.rs.cell5
    have c4 := hI.rs.cell4
    have f4 := hI.rs.row.thawed 4
    have hst : s'.steps ≤ 8000000 := by have := hI.rs.le; have := hI.rs.nn; omega
    have hs1 := hI.rs.set 4 (.int .i64 ((s'.steps : Int) + 1)) (s' := ⟨s'.pos, s'.out, s'.steps + 1⟩) (bad' := 0) (by simp) hI.rs.le rfl (show s'.steps + 1 ≤ s'.pos + 1 by omega)
    have HI1 := Lib.hid (hI.step hs1.1 hs1.2)
    have HMZ := Lib.hid hI.rs.meas0
    have HF1 : RowKit.Hid (v8 - s'.pos ≤ F1) := Lib.hid (by omega)
    have HX1 := Lib.hid hX'
    have HSP := Lib.hid hsp
    have HOL := Lib.hid hol
    clear hI hs1 hF' hX' hsp hol
    go_wp2_with fail
    generalize wr.setCell ⟨h, 4, none⟩ (.int .i64 ((s'.steps : Int) + 1)) = w3 at HI1 ⊢
    clear c5 c4 f4 hst
    refine (rnum_any 1 (by omega) w3 HI1.out.rs).mono ?_
    rintro e w4 (⟨last, s4, v4, hx4, hg4, hm4, he4⟩ | ⟨k4, s4, v4, hx4, hk4, hg4, hm4, he4⟩)
    rotate_left
    · obtain rfl := he4
      have HXE : RowKit.Hid (X = .error k4) := Lib.hid (by rw [← HX1.out]; exact loop_no (ok_bind (f := stepX) rfl (err_bind hx4)))
      have HIB := Lib.hid (HI1.out.step hg4 hm4)
      have hkb := hk4
      clear hg4 hm4 hx4
      go_wp2_with fail
      refine (rnum_bad 2 w4 HIB.out.rs hkb).mono ?_
      rintro e wz ⟨rfl, rfl⟩
      have c5b := HIB.out.rs.cell5
      have eb : ((k4 : Int) == 0) = false := by rw [beq_eq_false_iff_ne]; omega
      have eb2 : ¬ (k4 : Int) = 0 := by omega
      have HMB := Lib.hid (HIB.out.rs.measB hkb)
      go_wp2_with fail
      go_roundw
      case rel => exact ⟨v4, s4, k4, HIB.out, .inr ⟨hkb, HXE.out⟩⟩
      case measure => rw [HMB.out, HMZ.out]; omega
    obtain rfl := he4
    have hlast : last < 2 := numX_lt HI1.out.rs.bin hx4
    have HN4 := Lib.hid hx4
    have HI4 := Lib.hid (HI1.out.step hg4 hm4)
    clear hg4 hm4 hx4
    go_wp2_with fail
    refine (rnum_any 2 (by omega) w4 HI4.out.rs).mono ?_
    rintro e w5 (⟨kind, s5, v5, hx5, hg5, hm5, he5⟩ | ⟨k5, s5, v5, hx5, hk5, hg5, hm5, he5⟩)
    rotate_left
    · obtain rfl := he5
      have HXE : RowKit.Hid (X = .error k5) := Lib.hid (by rw [← HX1.out]; exact loop_no (ok_bind (f := stepX) rfl (ok_bind HN4.out (err_bind hx5))))
      have HIB := Lib.hid (HI4.out.step hg5 hm5)
      have hkb := hk5
      clear hg5 hm5 hx5
      have c5b := HIB.out.rs.cell5
      have eb : ((k5 : Int) == 0) = false := by rw [beq_eq_false_iff_ne]; omega
      have eb2 : ¬ (k5 : Int) = 0 := by omega
      have HMB := Lib.hid (HIB.out.rs.measB hkb)
      go_wp2_with fail
      go_roundw
      case rel => exact ⟨v5, s5, k5, HIB.out, .inr ⟨hkb, HXE.out⟩⟩
      case measure => rw [HMB.out, HMZ.out]; omega
    obtain rfl := he5
    have hkind : kind < 4 := numX_lt HI4.out.rs.bin hx5
    have HI5 := Lib.hid (HI4.out.step hg5 hm5)
    have HBK : RowKit.Hid (blockX (v8 + 1) M lim s' = bindX (kindX (v8 + 1) kind) (fun _ => pureX (decide (last = 1))) M lim s5) := Lib.hid (ok_bind (f := stepX) rfl (ok_bind HN4.out (ok_bind hx5 rfl)))
    have HP5 : RowKit.Hid (s5.pos = s'.pos + 3 ∧ s5.out = s'.out ∧ s5.steps = s'.steps + 1) := Lib.hid (by
      have e1 := num_ok HN4.out
      have e2 := num_ok hx5
      exact ⟨by rw [e2.1, e1.1], e2.2.1.trans e1.2.1, e2.2.2.trans e1.2.2⟩)
    have hs5 : s5.steps ≤ s5.pos := by have := HP5.out; have := HSP.out; omega
    have ho5 : s5.out.length ≤ lim := by rw [HP5.out.2.1]; exact HOL.out
    have hF5 : v8 - s5.pos < v8 + 1 := by omega
    have c5 : w5.cell? ⟨h, 5, none⟩ = some (.int .i64 0) := hg5.cell5
    clear hg5 hm5 hx5 HI4 HN4
    have HEND : RowKit.Hid (∀ s6, kindX (v8 + 1) kind M lim s5 = .ok ((), s6) → blockX (v8 + 1) M lim s' = .ok (decide (last = 1), s6) ∧ s'.pos < s6.pos ∧ s6.pos ≤ v8 ∧ s6.steps ≤ s6.pos ∧ s6.out.length ≤ lim) := Lib.hid (fun s6 h6 => by
      have hk := (good_kind (v8 + 1) kind).all M lim s5 () s6 HBM.out h6 (by rw [HI5.out.rs.len]; exact HI5.out.rs.le) ho5
      rw [HI5.out.rs.len] at hk
      exact ⟨HBK.out.trans (ok_bind h6 rfl), by have := HP5.out; omega, hk.2.1, by have := hk.2.2.2.2.1; omega, hk.2.2.2.1⟩)
    have HERR : RowKit.Hid (∀ k, kindX (v8 + 1) kind M lim s5 = .error k → X = .error k) := Lib.hid (fun k h6 => by rw [← HX1.out]; refine loop_no ?_; rw [HBK.out]; exact err_bind h6)
    obtain ⟨Y, hY⟩ : ∃ Y, kindX (v8 + 1) kind M lim s5 = Y := ⟨_, rfl⟩
    rw [hY] at HEND HERR
    have hYY := hY
    unfold kindX at hYY
    rcases (show kind = 0 ∨ kind = 1 ∨ kind = 2 ∨ kind = 3 by omega) with rfl | rfl | rfl | rfl
    · have HYY : RowKit.Hid (storedX M lim s5 = Y) := Lib.hid hYY
      clear hY hYY
      go_wp2_with fail
      refine (rstored_any w5 HI5.out.rs).mono ?_
      rintro e w6 hO
      rw [HYY.out] at hO
      rcases hO with ⟨u6, s6, v6, hx6, hg6, hm6, rfl⟩ | ⟨k6, s6, v6, hx6, hk6, hg6, hm6, rfl⟩
      rotate_left
      · have HIB := Lib.hid (HI5.out.step hg6 hm6)
        have HXE : RowKit.Hid (X = .error k6) := Lib.hid (HERR.out k6 hx6)
        have hkb := hk6
        clear hg6 hm6 hx6
        have c5b := HIB.out.rs.cell5
        have eb : ((k6 : Int) == 0) = false := by rw [beq_eq_false_iff_ne]; omega
        have eb2 : ¬ (k6 : Int) = 0 := by omega
        have HMB := Lib.hid (HIB.out.rs.measB hkb)
        go_wp2_with fail
        go_roundw
        case rel => exact ⟨v6, s6, k6, HIB.out, .inr ⟨hkb, HXE.out⟩⟩
        case measure => rw [HMB.out, HMZ.out]; omega
      have HE6 := Lib.hid (HEND.out s6 hx6)
      have HI6 := Lib.hid (HI5.out.step hg6 hm6)
      have k5 : w6.cell? ⟨h, 5, none⟩ = some (.int .i64 0) := hg6.cell5
      have HMB := Lib.hid hg6.meas0
      clear hx6
      rcases (show last = 0 ∨ last = 1 by omega) with rfl | rfl
      · clear hg6 hm6
        go_wp2_with fail
        go_roundw
        case rel => exact ⟨v6, s6, 0, HI6.out, .inl ⟨rfl, HE6.out.2.2.2.1, HE6.out.2.2.2.2, F1, by have := HE6.out; have := HF1.out; omega, by rw [← HX1.out]; exact (loop_go HE6.out.1).symm⟩⟩
        case measure => rw [HMB.out, HMZ.out]; have := HE6.out; omega
      have HXX : RowKit.Hid (inflF (8 * l.length + 1) (bitsL l) lim = .ok ((), s6)) := Lib.hid (by rw [HL.out, HV8.out, HMM.out, HX.out, ← HX1.out]; exact loop_end HE6.out.1)
      have k1 := hg6.cell1
      have k2 := hg6.cell2
      have k4 := hg6.cell4
      obtain ⟨Ao, co, hvo⟩ := hg6.own.slice
      obtain ⟨lo, hlo⟩ : ∃ lo, s6.out.length = lo := ⟨_, rfl⟩
      rw [hlo] at hvo
      rw [hvo] at k2
      have HVO := Lib.hid hvo
      obtain ⟨st, hst⟩ : ∃ st, s6.steps = st := ⟨_, rfl⟩
      obtain ⟨ps, hps⟩ : ∃ ps, s6.pos = ps := ⟨_, rfl⟩
      have hple : ps ≤ 8000 := by have := HE6.out; omega
      rw [hst] at k4
      rw [hps] at k1
      obtain ⟨us, hus⟩ : ∃ us, (ps + 7) / 8 = us := ⟨_, rfl⟩
      obtain ⟨p7, hp7⟩ : ∃ p7, ps + 7 = p7 := ⟨_, rfl⟩
      have e7 : (ps : Int) + 7 = (p7 : Int) := by omega
      have e8 : (p7 : Int).tdiv 8 = (us : Int) := by rw [Int.tdiv_eq_ediv_of_nonneg (by omega)]; omega
      have e9 : (p7 : Int) / 8 = (us : Int) := by omega
      have e10 : IntKind.i64.wrap (p7 : Int) = (p7 : Int) := wrap64_in _ (by omega) (by omega)
      have e11 : IntKind.i64.wrap (us : Int) = (us : Int) := wrap64_in _ (by omega) (by omega)
      have HNM := Lib.hid (And.intro hst (And.intro hps hus))
      clear hg6 hm6 hst hps hus hp7 hlo hvo
      go_wp2_with fail
      go_still (by kernel_rfl)
      change Exit.then _ _ _ _ w6.drew
      have HB := Lib.hid (HI6.out.bel.grown (drew_grown w6) HI6.out.bel.size (fun _ h => by cases h))
      have HO6 : RowKit.Hid (Own w6.drew w.heap.size v6 s6.out) := Lib.hid (own_mono (World.ownsRow.kept HI6.out.rs.own (drew_grown w6) (own_none _)) (by have := HI6.out.hw; omega))
      generalize w6.drew = w9 at HB HO6 ⊢
      go_wp2_with fail
      refine bodyPost_ret (results_four rfl _ _ _ _ _ _ rfl rfl rfl rfl) rfl ?_
      exact ⟨HB.out, .inr ⟨s6, v6, HXX.out, by rw [HVO.out, HNM.out.2.1, HNM.out.2.2, HNM.out.1]; rfl, HO6.out⟩⟩
    · have HYY : RowKit.Hid (loopX (letterX fixA fixB) (v8 + 1) M lim s5 = Y) := Lib.hid hYY
      clear hY hYY
      go_wp2_with fail
      refine (rfixed_any w5).mono ?_
      rintro e w7 ⟨p, q, rfl, hp, hq, hb7, hp7, hq7, hpq⟩
      have hg7 := HI5.out.rs.still (grown_of_below hb7)
      have hI7 := HI5.out.step hg7 (Moves.grown v5 (grown_of_below hb7) (.inl rfl))
      have HQ : RowKit.Hid (w5.heap.size ≤ q ∧ h < w5.heap.size ∧ w.heap.size ≤ h) := Lib.hid ⟨hq7, HI5.out.rs.lt, HI5.out.hw⟩
      have HQO : RowKit.Hid (some q ≠ v5.ownBlock) := Lib.hid (fun e => by have := (HI5.out.rs.ownLt e.symm).2; omega)
      have HRA0 : RowKit.Hid (Rd w7 w7.heap.size (some ⟨p, 0, none⟩) 288 (is (ints64 fixA))) := Lib.hid (by rw [is_fixA]; exact hp.rdI hp.lt)
      have HQR := Lib.hid hq
      have HI7 := Lib.hid hI7
      clear hp hq hb7 hp7 hq7 hpq hg7 hI7 c5
      go_wp2_with fail
      refine (rcode_any (some ⟨p, 0, none⟩) 288 288 fixA false w7 HI7.out.rs HRA0.out (by rw [fix_lens.1]; decide) fix_low.1).mono ?_
      rintro e w8 ⟨hm8, hk8, ⟨_, hg8, pa, rfl, hra⟩ | ⟨hno, _⟩⟩
      rotate_left
      · rw [fix_right.1] at hno; cases hno
      have hq8 : Row w8 q (ia (fun _ => 5) 30) 3 := by unfold Row; rw [hk8 q HQR.out.lt (by have := HQ.out; omega)]; exact HQR.out
      have hpq8 : pa ≠ q := fun e => by
        subst e
        have := (hra.row.inj hq8).2
        cases this
      have HPQ := Lib.hid hpq8
      have HRA := Lib.hid hra
      have HI8 := Lib.hid (HI7.out.step hg8 hm8)
      have HZ8 : RowKit.Hid (w5.heap.size ≤ w8.heap.size) := Lib.hid (by have := hq8.lt; have := HQ.out; omega)
      have HO8 := Lib.hid (hq8.ownI (B := w5.heap.size) (n := 30) is_fixB (by decide) (by decide) HQ.out.1)
      clear hm8 hk8 hg8 hra hq8 hpq8 HI7 HRA0 HQR
      go_wp2_with (at_builtin; refine pushI w8 rfl (.tmp 63) (.tmp 64) rfl w5.heap.size _ (List.replicate 30 5) [5, 5] _ 2 rfl rfl HO8.out rfl rfl HZ8.out (by decide) ?_)
      intro vd w9 hod hgd hfd
      have hqb : ∀ b, (Value.slice (some ⟨q, 0, none⟩) 30 30).ownBlock = some b → q = b := fun b hb => by injection hb
      have hg9 := HI8.out.rs.beyond hgd (fun b hb => by have e := hqb b hb; subst e; exact ⟨by have := HQ.out; omega, HQO.out⟩)
      have hI9 : II w w9 h A v8 c M lim v5 s5 0 := ⟨hg9, HI8.out.bel.grown hgd HI8.out.bel.size (fun b hb => by have e := hqb b hb; subst e; have := HQ.out; omega), HI8.out.hw⟩
      have hra9 : RC w9 h v5 pa fixA := ⟨HRA.out.low, HRA.out.ok, HRA.out.len, HRA.out.row.grown hgd (fun e => HPQ.out (hqb _ e.symm).symm), HRA.out.ne, HRA.out.ap⟩
      obtain ⟨Ad, cd, hvd⟩ := hod.slice
      have hvd : vd = .slice Ad 32 cd := hvd
      subst hvd
      have HRD : RowKit.Hid (Rd w9 w9.heap.size Ad 32 (is (ints64 fixB))) := Lib.hid (by rw [fixB_ints]; exact hod.rd.2)
      have HI9 := Lib.hid hI9
      have HRA9 := Lib.hid hra9
      clear hod hgd hfd hqb hg9 hI9 hra9 HI8 HRA HO8
      go_wp2_with fail
      refine (rcode_any Ad 32 cd fixB true w9 HI9.out.rs HRD.out (by rw [fix_lens.2]; decide) fix_low.2).mono ?_
      rintro e w10 ⟨hm10, hk10, ⟨_, hg10, pb, rfl, hrb⟩ | ⟨hno, _⟩⟩
      rotate_left
      · rw [fix_right.2] at hno; cases hno
      have HI10 := Lib.hid (HI9.out.step hg10 hm10)
      have HRA10 := Lib.hid (HRA9.out.moves hm10)
      have HRB := Lib.hid hrb
      clear hm10 hk10 hg10 hrb
      go_wp2_with fail
      refine (rcoded_any pa pb fixA fixB (v8 + 1) w10 HI10.out.rs HRA10.out HRB.out hF5 hs5 ho5).mono ?_
      rintro e w6 hO
      rw [HYY.out] at hO
      have HI5 := HI10
      rcases hO with ⟨u6, s6, v6, hx6, hg6, hm6, rfl⟩ | ⟨k6, s6, v6, hx6, hk6, hg6, hm6, rfl⟩
      rotate_left
      · have HIB := Lib.hid (HI5.out.step hg6 hm6)
        have HXE : RowKit.Hid (X = .error k6) := Lib.hid (HERR.out k6 hx6)
        have hkb := hk6
        clear hg6 hm6 hx6
        have c5b := HIB.out.rs.cell5
        have eb : ((k6 : Int) == 0) = false := by rw [beq_eq_false_iff_ne]; omega
        have eb2 : ¬ (k6 : Int) = 0 := by omega
        have HMB := Lib.hid (HIB.out.rs.measB hkb)
        go_wp2_with fail
        go_roundw
        case rel => exact ⟨v6, s6, k6, HIB.out, .inr ⟨hkb, HXE.out⟩⟩
        case measure => rw [HMB.out, HMZ.out]; omega
      have HE6 := Lib.hid (HEND.out s6 hx6)
      have HI6 := Lib.hid (HI5.out.step hg6 hm6)
      have k5 : w6.cell? ⟨h, 5, none⟩ = some (.int .i64 0) := hg6.cell5
      have HMB := Lib.hid hg6.meas0
      clear hx6
      rcases (show last = 0 ∨ last = 1 by omega) with rfl | rfl
      · clear hg6 hm6
        go_wp2_with fail
        go_roundw
        case rel => exact ⟨v6, s6, 0, HI6.out, .inl ⟨rfl, HE6.out.2.2.2.1, HE6.out.2.2.2.2, F1, by have := HE6.out; have := HF1.out; omega, by rw [← HX1.out]; exact (loop_go HE6.out.1).symm⟩⟩
        case measure => rw [HMB.out, HMZ.out]; have := HE6.out; omega
      have HXX : RowKit.Hid (inflF (8 * l.length + 1) (bitsL l) lim = .ok ((), s6)) := Lib.hid (by rw [HL.out, HV8.out, HMM.out, HX.out, ← HX1.out]; exact loop_end HE6.out.1)
      have k1 := hg6.cell1
      have k2 := hg6.cell2
      have k4 := hg6.cell4
      obtain ⟨Ao, co, hvo⟩ := hg6.own.slice
      obtain ⟨lo, hlo⟩ : ∃ lo, s6.out.length = lo := ⟨_, rfl⟩
      rw [hlo] at hvo
      rw [hvo] at k2
      have HVO := Lib.hid hvo
      obtain ⟨st, hst⟩ : ∃ st, s6.steps = st := ⟨_, rfl⟩
      obtain ⟨ps, hps⟩ : ∃ ps, s6.pos = ps := ⟨_, rfl⟩
      have hple : ps ≤ 8000 := by have := HE6.out; omega
      rw [hst] at k4
      rw [hps] at k1
      obtain ⟨us, hus⟩ : ∃ us, (ps + 7) / 8 = us := ⟨_, rfl⟩
      obtain ⟨p7, hp7⟩ : ∃ p7, ps + 7 = p7 := ⟨_, rfl⟩
      have e7 : (ps : Int) + 7 = (p7 : Int) := by omega
      have e8 : (p7 : Int).tdiv 8 = (us : Int) := by rw [Int.tdiv_eq_ediv_of_nonneg (by omega)]; omega
      have e9 : (p7 : Int) / 8 = (us : Int) := by omega
      have e10 : IntKind.i64.wrap (p7 : Int) = (p7 : Int) := wrap64_in _ (by omega) (by omega)
      have e11 : IntKind.i64.wrap (us : Int) = (us : Int) := wrap64_in _ (by omega) (by omega)
      have HNM := Lib.hid (And.intro hst (And.intro hps hus))
      clear hg6 hm6 hst hps hus hp7 hlo hvo
      go_wp2_with fail
      go_still (by kernel_rfl)
      change Exit.then _ _ _ _ w6.drew
      have HB := Lib.hid (HI6.out.bel.grown (drew_grown w6) HI6.out.bel.size (fun _ h => by cases h))
      have HO6 : RowKit.Hid (Own w6.drew w.heap.size v6 s6.out) := Lib.hid (own_mono (World.ownsRow.kept HI6.out.rs.own (drew_grown w6) (own_none _)) (by have := HI6.out.hw; omega))
      generalize w6.drew = w9 at HB HO6 ⊢
      go_wp2_with fail
      refine bodyPost_ret (results_four rfl _ _ _ _ _ _ rfl rfl rfl rfl) rfl ?_
      exact ⟨HB.out, .inr ⟨s6, v6, HXX.out, by rw [HVO.out, HNM.out.2.1, HNM.out.2.2, HNM.out.1]; rfl, HO6.out⟩⟩
    · have HYY : RowKit.Hid (bindX toldX (fun c => loopX (letterX c.1 c.2) (v8 + 1)) M lim s5 = Y) := Lib.hid hYY
      clear hY hYY
      go_wp2_with fail
      refine (HTC.out h A v8 c M lim v5 s5 w5 HI5.out.rs hs5 ho5).mono ?_
      rintro e w7 (⟨p, s7, v7, hx7, hg7, hm7, ppa, ppb, rfl, hra, hrb⟩ | ⟨k7, s7, v7, hx7, hk7, hg7, hm7, px, py, rfl⟩)
      rotate_left
      · have HI7 := Lib.hid (HI5.out.step hg7 hm7)
        have HXE : RowKit.Hid (X = .error k7) := Lib.hid (HERR.out k7 (by rw [← HYY.out]; exact err_bind hx7))
        have hkb := hk7
        clear hg7 hm7 hx7 c5
        go_wp2_with fail
        refine (rcoded_bad px py w7 HI7.out.rs hkb).mono ?_
        rintro e wz ⟨rfl, rfl⟩
        have HIB := HI7
        have c5b := HIB.out.rs.cell5
        have eb : ((k7 : Int) == 0) = false := by rw [beq_eq_false_iff_ne]; omega
        have eb2 : ¬ (k7 : Int) = 0 := by omega
        have HMB := Lib.hid (HIB.out.rs.measB hkb)
        go_wp2_with fail
        go_roundw
        case rel => exact ⟨v7, s7, k7, HIB.out, .inr ⟨hkb, HXE.out⟩⟩
        case measure => rw [HMB.out, HMZ.out]; omega
      have hgt := good_told.all M lim s5 p s7 HBM.out hx7 (by rw [HI5.out.rs.len]; exact HI5.out.rs.le) ho5
      have HI7 := Lib.hid (HI5.out.step hg7 hm7)
      have HYZ := Lib.hid (bind_go hx7 HYY.out)
      have HRA := Lib.hid (And.intro hra hrb)
      have HS7 : RowKit.Hid (s7.steps ≤ s7.pos ∧ s7.out.length ≤ lim) := Lib.hid ⟨by have := hgt.2.2.2.2.1; omega, hgt.2.2.2.1⟩
      clear hg7 hm7 hx7 hra hrb hgt c5
      go_wp2_with fail
      refine (rcoded_any ppa ppb p.1 p.2 (v8 + 1) w7 HI7.out.rs HRA.out.1 HRA.out.2 (by omega) HS7.out.1 HS7.out.2).mono ?_
      rintro e w6 hO
      rw [HYZ.out] at hO
      have HI5 := HI7
      rcases hO with ⟨u6, s6, v6, hx6, hg6, hm6, rfl⟩ | ⟨k6, s6, v6, hx6, hk6, hg6, hm6, rfl⟩
      rotate_left
      · have HIB := Lib.hid (HI5.out.step hg6 hm6)
        have HXE : RowKit.Hid (X = .error k6) := Lib.hid (HERR.out k6 hx6)
        have hkb := hk6
        clear hg6 hm6 hx6
        have c5b := HIB.out.rs.cell5
        have eb : ((k6 : Int) == 0) = false := by rw [beq_eq_false_iff_ne]; omega
        have eb2 : ¬ (k6 : Int) = 0 := by omega
        have HMB := Lib.hid (HIB.out.rs.measB hkb)
        go_wp2_with fail
        go_roundw
        case rel => exact ⟨v6, s6, k6, HIB.out, .inr ⟨hkb, HXE.out⟩⟩
        case measure => rw [HMB.out, HMZ.out]; omega
      have HE6 := Lib.hid (HEND.out s6 hx6)
      have HI6 := Lib.hid (HI5.out.step hg6 hm6)
      have k5 : w6.cell? ⟨h, 5, none⟩ = some (.int .i64 0) := hg6.cell5
      have HMB := Lib.hid hg6.meas0
      clear hx6
      rcases (show last = 0 ∨ last = 1 by omega) with rfl | rfl
      · clear hg6 hm6
        go_wp2_with fail
        go_roundw
        case rel => exact ⟨v6, s6, 0, HI6.out, .inl ⟨rfl, HE6.out.2.2.2.1, HE6.out.2.2.2.2, F1, by have := HE6.out; have := HF1.out; omega, by rw [← HX1.out]; exact (loop_go HE6.out.1).symm⟩⟩
        case measure => rw [HMB.out, HMZ.out]; have := HE6.out; omega
      have HXX : RowKit.Hid (inflF (8 * l.length + 1) (bitsL l) lim = .ok ((), s6)) := Lib.hid (by rw [HL.out, HV8.out, HMM.out, HX.out, ← HX1.out]; exact loop_end HE6.out.1)
      have k1 := hg6.cell1
      have k2 := hg6.cell2
      have k4 := hg6.cell4
      obtain ⟨Ao, co, hvo⟩ := hg6.own.slice
      obtain ⟨lo, hlo⟩ : ∃ lo, s6.out.length = lo := ⟨_, rfl⟩
      rw [hlo] at hvo
      rw [hvo] at k2
      have HVO := Lib.hid hvo
      obtain ⟨st, hst⟩ : ∃ st, s6.steps = st := ⟨_, rfl⟩
      obtain ⟨ps, hps⟩ : ∃ ps, s6.pos = ps := ⟨_, rfl⟩
      have hple : ps ≤ 8000 := by have := HE6.out; omega
      rw [hst] at k4
      rw [hps] at k1
      obtain ⟨us, hus⟩ : ∃ us, (ps + 7) / 8 = us := ⟨_, rfl⟩
      obtain ⟨p7, hp7⟩ : ∃ p7, ps + 7 = p7 := ⟨_, rfl⟩
      have e7 : (ps : Int) + 7 = (p7 : Int) := by omega
      have e8 : (p7 : Int).tdiv 8 = (us : Int) := by rw [Int.tdiv_eq_ediv_of_nonneg (by omega)]; omega
      have e9 : (p7 : Int) / 8 = (us : Int) := by omega
      have e10 : IntKind.i64.wrap (p7 : Int) = (p7 : Int) := wrap64_in _ (by omega) (by omega)
      have e11 : IntKind.i64.wrap (us : Int) = (us : Int) := wrap64_in _ (by omega) (by omega)
      have HNM := Lib.hid (And.intro hst (And.intro hps hus))
      clear hg6 hm6 hst hps hus hp7 hlo hvo
      go_wp2_with fail
      go_still (by kernel_rfl)
      change Exit.then _ _ _ _ w6.drew
      have HB := Lib.hid (HI6.out.bel.grown (drew_grown w6) HI6.out.bel.size (fun _ h => by cases h))
      have HO6 : RowKit.Hid (Own w6.drew w.heap.size v6 s6.out) := Lib.hid (own_mono (World.ownsRow.kept HI6.out.rs.own (drew_grown w6) (own_none _)) (by have := HI6.out.hw; omega))
      generalize w6.drew = w9 at HB HO6 ⊢
      go_wp2_with fail
      refine bodyPost_ret (results_four rfl _ _ _ _ _ _ rfl rfl rfl rfl) rfl ?_
      exact ⟨HB.out, .inr ⟨s6, v6, HXX.out, by rw [HVO.out, HNM.out.2.1, HNM.out.2.2, HNM.out.1]; rfl, HO6.out⟩⟩
    · have HXE : RowKit.Hid (X = .error 2) := Lib.hid (HERR.out 2 hYY.symm)
      clear hY hYY
      go_wp2_with fail
      refine (rwrong_yes _ rfl 2 _ rfl w5 HI5.out.rs).mono ?_
      rintro e w6 ⟨rfl, hg6, hm6, _⟩
      have HIB := Lib.hid (HI5.out.step hg6 hm6)
      have hkb : 2 ≠ 0 := by decide
      clear hg6 hm6 c5
      have c5b := HIB.out.rs.cell5
      have eb : ((2 : Int) == 0) = false := by rw [beq_eq_false_iff_ne]; omega
      have eb2 : ¬ (2 : Int) = 0 := by omega
      have HMB := Lib.hid (HIB.out.rs.measB hkb)
      go_wp2_with fail
      go_roundw
      case rel => exact ⟨v5, s5, 2, HIB.out, .inr ⟨hkb, HXE.out⟩⟩
      case measure => rw [HMB.out, HMZ.out]; omega
end Go.Proofs.YtjipjclbhdgkoaaDoor
