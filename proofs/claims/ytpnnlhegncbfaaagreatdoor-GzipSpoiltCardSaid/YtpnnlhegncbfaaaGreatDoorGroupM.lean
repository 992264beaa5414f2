
/- Contract of repeat: bytes that were put out before. -/

/- Contract of letters. -/

/- Contract of toldCodes. -/
import Derived.Test.YtpnnlhegncbfaaaGreatDoorGroupL
import Derived.Deep.RegionHeld3
import Derived.Test.YtpnnlhegncbfaaaGreatDoorGroupK
namespace Go.Proofs.YtpnnlhegncbfaaaGreatDoor
set_option maxRecDepth 20000
open Go.RowKit

variable {g r H : Nat} {A : Option Addr} {n c : Nat} {l : List UInt8} {lim : Nat} {v : Value} {s : Sx}
/-- A byte put out: the append and the store. -/
theorem copyL_step {far k : Nat} {o : List UInt8} {x : UInt8} (h : o[o.length - far]? = some x) : copyL far (k + 1) o = copyL far k (o ++ [x]) := by
  rw [copyL, List.getD_eq_getElem?_getD, h]; rfl

set_option maxHeartbeats 1000000 in
set_option maxRecDepth 20000 in
theorem repeat_any (k far : Nat) (hk : k ≤ 1000) (h1 : 1 ≤ far) (hf : far ≤ 1000000) (w : World) (hm : MS w g r H A n c l lim v s) :
    Calls Tryz.prog 120 #[.pointer (some ⟨g, 0, none⟩), .int .i64 (k : Int), .int .i64 (far : Int)] w (Out w g r H A n c l lim v (copyX k far (bitsL l) lim s) unit) := by
  obtain ⟨A1, c1, hv⟩ := hm.own.slice
  have cv := hm.cell1
  rw [hv] at cv
  have HM := Lib.hid hm
  obtain ⟨q, hq⟩ : ∃ q, s.out.length = q := ⟨_, rfl⟩
  have HQ := Lib.hid hq
  have hql : q ≤ 1048576 := by have := hm.ol; have := hm.lm; omega
  rw [hq] at cv
  unfold copyX
  rw [hq]
  clear hm hv hq
  by_cases h2 : q < far
  · rw [if_pos h2]
    have hd : decide ((far : Int) ≤ (q : Int)) = false := decide_eq_false (by omega)
    go_enter Tryz.func120, Tryz.ntmps120
    go_wp2_with fail
    refine (must_no w _ (by first | rfl | (simp; omega))).mono ?_
    rintro e w1 ⟨rfl, rfl⟩
    exact ⟨rfl, Out.thrown rfl (Moves.refl w g r v) 2 rfl⟩
  · rw [if_neg h2]
    have hd : decide ((far : Int) ≤ (q : Int)) = true := decide_eq_true (by omega)
    obtain ⟨X, HX⟩ : ∃ X, RowKit.Hid ((if lim < q + k then Except.error 3 else Except.ok ((), (⟨s.pos, copyL far k s.out, s.steps⟩ : Sx))) = X) := ⟨_, Lib.hid rfl⟩
    rw [HX.out]
    go_enter Tryz.func120, Tryz.ntmps120
    go_wp2_with fail
    refine (must_ok w _ (by first | rfl | (simp; omega))).mono ?_
    rintro e w1 ⟨rfl, rfl⟩
    clear cv hd
    go_wp2_with fail
    refine (room_any k (by omega) w HM.out).mono ?_
    rintro e w1 (⟨u, s1, v1, hx1, hm1, hg1, he1⟩ | ⟨k2, b2, v1, hx1, rfl, hb2, hc2, hg1⟩)
    rotate_left
    · refine ⟨rfl, Out.passed (Moves.refl w g r v) ?_ hb2 hc2 hg1⟩
      have hh := room_err hx1
      rw [HQ.out] at hh
      rw [← HX.out, if_pos hh.2, hh.1]
    obtain rfl := he1
    have hh := room_ok hx1
    rw [hh.1] at hm1
    have hroom := hh.2
    rw [HQ.out] at hroom
    have HX1 : RowKit.Hid (Except.ok ((), (⟨s.pos, copyL far k s.out, s.steps⟩ : Sx)) = X) := Lib.hid (by rw [← HX.out, if_neg (by omega)])
    have HM1 := Lib.hid hm1
    have HG1 := Lib.hid hg1
    have HRM := Lib.hid hroom
    clear hh hroom hm1 hg1 hx1 HX HM
    go_wp2_with fail
    go_loopw [18] (fun i wr => ∃ (j : Nat) (v' : Value) (o' : List UInt8), j ≤ k ∧ i = .int .i64 (j : Int) ∧ MS wr g r H A n c l lim v' ⟨s.pos, o', s.steps⟩ ∧ Moves w wr g r v v' ∧ o'.length = q + j ∧ copyL far (k - j) o' = copyL far k s.out) (fun i _ => k - (intOf i).toNat)
    case atStart => exact ⟨0, v1, s.out, Nat.zero_le _, rfl, HM1.out, HG1.out, by rw [HQ.out]; rfl, rfl⟩
    case round =>
      clear HM1 HG1
      obtain ⟨j, v', o', hj, rfl, hm2, hg2, hl2, hc2⟩ := hrel
      by_cases hlt : j < k
      · obtain ⟨b, c', x, rfl, hx, hc⟩ := hm2.own.at8 (k := o'.length - far) (show o'.length - far < o'.length by omega)
        have cc := hm2.cell1
        have HXX := Lib.hid hx
        have HMW := Lib.hid hm2
        obtain ⟨fl, fd, hrow, hfx⟩ := hm2.fx
        have HRW := Lib.hid hrow
        clear hfx hrow
        have HGW := Lib.hid hg2
        have HL2 := Lib.hid hl2
        have HC2 := Lib.hid hc2
        obtain ⟨m, hmm⟩ : ∃ m, o'.length = m := ⟨_, rfl⟩
        have HMM := Lib.hid hmm
        rw [hmm] at cc hc HGW HMW HRW hl2
        obtain ⟨p, hp⟩ : ∃ p, m - far = p := ⟨_, rfl⟩
        rw [hp] at hc
        have e1 : (m : Int) - (far : Int) = (p : Int) := by omega
        have e2 : IntKind.i64.wrap (p : Int) = (p : Int) := wrap64_in _ (by omega) (by omega)
        have e3 : p < m := by omega
        have hd : decide ((j : Int) < (k : Int)) = true := decide_eq_true (by omega)
        have hx8 : x.toNat < 256 := x.toNat_lt
        have HB : RowKit.Hid (g + 1 ≤ wr.heap.size) := Lib.hid HMW.out.lt
        have HS : RowKit.Hid (o'.length + 1 ≤ 4000000) := Lib.hid (by omega)
        have HM9 : RowKit.Hid (m + 1 ≤ lim) := Lib.hid (by have := HRM.out; omega)
        clear hm2 hg2 hc2 hx hp hmm hl2
        go_wp2_with fail
        have HQX : RowKit.Hid ((o' ++ [x]).length = m + 1) := Lib.hid (by rw [List.length_append, HMM.out]; rfl)
        have cca : ∀ o, (wr.alloc o).cell? ⟨g, 1, none⟩ = some (.slice (some ⟨b, 0, none⟩) m c') := fun o => (World.cell?_alloc_some wr _ o (by rw [cc]; rfl)).trans cc
        go_region_law ((refine step8c wr rfl (.tmp 24) (.tmp 38) rfl (g + 1) _ o' [x] _ 1 rfl rfl HMW.out.own rfl rfl HB.out HS.out ?_); intro v6 w6 ho6 hg6 hf6; obtain ⟨A6, c6, hv6⟩ := ho6.slice; rw [HQX.out] at hv6; subst hv6; have hr6 := HRW.out.grown hg6 (HMW.out.ne (Nat.le_refl _)); have c61 : w6.cell? ⟨g, 1, none⟩ = some _ := hr6.cell 1; have f61 := hr6.thawed 1)
        all_goals
          obtain ⟨hM7, hG7⟩ := HMW.out.text hg6 ho6 hf6 (by rw [HQX.out]; exact HM9.out)
          have HG7 := Lib.hid (HGW.out.trans hG7)
          have HM7 := Lib.hid hM7
          clear hM7 hG7 hr6 ho6 hg6 hf6
          go_wp2_with fail
          go_roundw
          case rel => exact ⟨j + 1, _, o' ++ [x], by omega, by simp, HM7.out, HG7.out, by rw [HQX.out, ← HMM.out, HL2.out]; omega, by rw [← HC2.out, show k - j = (k - (j + 1)) + 1 by omega, copyL_step HXX.out]⟩
          case measure => simp [intOf]; omega
      · obtain rfl : j = k := by omega
        have hd : decide ((j : Int) < (j : Int)) = false := decide_eq_false (by omega)
        have HM3 := Lib.hid hm2
        have HG3 := Lib.hid hg2
        have HC3 : RowKit.Hid (o' = copyL far j s.out) := Lib.hid (by rw [← hc2, Nat.sub_self]; rfl)
        clear hm2 hg2 hc2 hl2
        go_wp2_with fail
        go_end0
        exact .inl ⟨(), _, v', HX1.out.symm, by rw [← HC3.out]; exact HM3.out, HG3.out, rfl⟩
end Go.Proofs.YtpnnlhegncbfaaaGreatDoor
namespace Go.Proofs.YtpnnlhegncbfaaaGreatDoor
set_option maxRecDepth 20000
open Go.RowKit

variable {g r H : Nat} {A : Option Addr} {n c : Nat} {l : List UInt8} {lim : Nat} {v : Value} {s : Sx}
/-- At which bit the reader is. -/
def posOf (r : Nat) (w : World) : Nat := match w.cell? ⟨r, 1, none⟩ with
  | some (.int _ z) => z.toNat
  | _ => 0
theorem MS.posOf {w : World} (h : MS w g r H A n c l lim v s) : posOf r w = s.pos := by
  unfold Go.Proofs.YtpnnlhegncbfaaaGreatDoor.posOf
  rw [show w.cell? ⟨r, 1, none⟩ = some (.int .i64 (s.pos : Int)) from h.rrow.cell 1]
  simp
theorem CDH.len {w : World} {H g a : Nat} {v : Value} {ls : List Nat} (h : CDH w H g v a ls) : ls.length ≤ 320 := by
  obtain ⟨lo, hi, h1, _⟩ := h
  exact (h1 w fun _ _ _ => rfl).len
def farK (lb : List Nat) (x : Nat) : X Bool := bindX (lengthX x) fun len => bindX (signX lb) fun d => bindX (distanceX d) fun far => bindX (copyX len far) fun _ => pureX false
def letterK (lb : List Nat) (x : Nat) : X Bool := if x = 256 then pureX true else if x < 256 then bindX (putX x) fun _ => pureX false else farK lb x
theorem bind_map {β : Type} (f : X Nat) (k : Nat) (h : Nat → X β) : bindX (bindX f fun y => pureX (k + y)) h = bindX f fun y => h (k + y) := by
  funext L lim s
  unfold bindX pureX
  cases f L lim s with
  | error e => rfl
  | ok q => rfl
theorem far_eq (lb : List Nat) (x : Nat) : (if 285 < x then failX 2 else bindX (numX (lenMore x)) fun y => bindX (signX lb) fun d => if 29 < d then failX 2 else bindX (numX (distMore d)) fun z => bindX (copyX (lenBase x + y) (distSum d + z)) fun _ => pureX false) = farK lb x := by
  unfold farK lengthX
  by_cases h : 285 < x
  · rw [if_pos h, if_pos h]; funext L lim s; rfl
  · rw [if_neg h, if_neg h, bind_map]
    congr 1; funext y; congr 1; funext d
    unfold distanceX
    by_cases h2 : 29 < d
    · rw [if_pos h2, if_pos h2]; funext L lim s; rfl
    · rw [if_neg h2, if_neg h2, bind_map]
theorem letter_at {la lb : List Nat} {L : List UInt8} {x : Nat} {s1 : Sx} (hs : signX la L lim s = .ok (x, s1)) : letterX la lb L lim s = letterK lb x L lim ⟨s1.pos, s1.out, s1.steps + 1⟩ := by
  unfold letterX
  refine ok_bind (f := stepX) rfl (ok_bind (sign_step hs) ?_)
  rw [far_eq]
  rfl
theorem letter_no {la lb : List Nat} {L : List UInt8} {e : Nat} (hs : signX la L lim s = .error e) : letterX la lb L lim s = .error e :=
  ok_bind (f := stepX) rfl (err_bind (sign_step_no hs))
theorem loop_go {body : X Bool} {F : Nat} {L : List UInt8} {s2 : Sx} (h : body L lim s = .ok (false, s2)) : loopX body (F + 1) L lim s = loopX body F L lim s2 := ok_bind h rfl
theorem loop_end {body : X Bool} {F : Nat} {L : List UInt8} {s2 : Sx} (h : body L lim s = .ok (true, s2)) : loopX body (F + 1) L lim s = .ok ((), s2) := ok_bind h rfl
theorem loop_no {body : X Bool} {F e : Nat} {L : List UInt8} (h : body L lim s = .error e) : loopX body (F + 1) L lim s = .error e := err_bind h
theorem len_small : ∀ x : Nat, x < 286 → 257 ≤ x → lenBase x ≤ 258 ∧ lenMore x ≤ 5 := by decide +kernel
theorem dist_small : ∀ x : Nat, x < 30 → 1 ≤ distSum x ∧ distSum x ≤ 24577 ∧ distMore x ≤ 13 := by decide +kernel
theorem length_facts {x len : Nat} {s2 : Sx} (h : lengthX x (bitsL l) lim s = .ok (len, s2)) (h0 : 257 ≤ x) : len ≤ 300 ∧ s.pos ≤ s2.pos ∧ s2.out = s.out ∧ s2.steps = s.steps := by
  unfold lengthX at h
  split at h
  · cases h
  · obtain ⟨y, s1, e1, e2⟩ := bind_ok h
    injection e2 with e2; injection e2 with e3 e4; subst e3 e4
    have hy := num_lt e1
    have hs := len_small x (by omega) h0
    have h5 : 2 ^ lenMore x ≤ 2 ^ 5 := Nat.pow_le_pow_right (by decide) hs.2
    have hn := num_ok e1
    exact ⟨by omega, by omega, hn.2.1, hn.2.2⟩
theorem distance_facts {x far : Nat} {s2 : Sx} (h : distanceX x (bitsL l) lim s = .ok (far, s2)) : 1 ≤ far ∧ far ≤ 100000 ∧ s.pos ≤ s2.pos ∧ s2.out = s.out ∧ s2.steps = s.steps := by
  unfold distanceX at h
  split at h
  · cases h
  · obtain ⟨y, s1, e1, e2⟩ := bind_ok h
    injection e2 with e2; injection e2 with e3 e4; subst e3 e4
    have hy := num_lt e1
    have hs := dist_small x (by omega)
    have h5 : 2 ^ distMore x ≤ 2 ^ 13 := Nat.pow_le_pow_right (by decide) hs.2.2
    have hn := num_ok e1
    exact ⟨by omega, by omega, by omega, hn.2.1, hn.2.2⟩
structure LetI (w wr : World) (g r H : Nat) (A : Option Addr) (n c : Nat) (l : List UInt8) (lim xb ca cb : Nat) (la lb : List Nat) (v v' : Value) (s' : Sx) : Prop where
  ms : MS wr g r H A n c l lim v' s'
  mv : Moves w wr g r v v'
  fa : CDH wr w.heap.size g v' ca la
  fb : CDH wr w.heap.size g v' cb lb
  row : Row wr xb #[.pointer (some ⟨ca, 0, none⟩), .pointer (some ⟨cb, 0, none⟩)] 135
  ap : some xb ≠ v'.ownBlock
  xg : g < xb
theorem LetI.step {w wr w' : World} {xb ca cb : Nat} {la lb : List Nat} {v' v2 : Value} {s' s2 : Sx} (h : LetI w wr g r H A n c l lim xb ca cb la lb v v' s') (hm : MS w' g r H A n c l lim v2 s2) (hg : Moves wr w' g r v' v2) : LetI w w' g r H A n c l lim xb ca cb la lb v v2 s2 := by
  have hrg := h.ms.rg
  have hxg := h.xg
  exact ⟨hm, h.mv.trans hg, h.fa.moves h.mv.size hg hrg, h.fb.moves h.mv.size hg hrg, by unfold Row; rw [hg.block xb h.row.lt (by omega) (by omega) h.ap]; exact h.row, hg.apart h.row.lt h.ap, hxg⟩

set_option maxHeartbeats 2000000 in
set_option maxRecDepth 20000 in
theorem letters_any (ca cb : Nat) (la lb : List Nat) (F : Nat) (w : World) (hm : MS w g r H A n c l lim v s) (hca : CDH w w.heap.size g v ca la) (hcb : CDH w w.heap.size g v cb lb) (hF : 8 * n - s.pos < F) :
    Calls Tryz.prog 109 #[.pointer (some ⟨g, 0, none⟩), .agg #[.pointer (some ⟨ca, 0, none⟩), .pointer (some ⟨cb, 0, none⟩)]] w (Out w g r H A n c l lim v (loopX (letterX la lb) F (bitsL l) lim s) unit) := by
  obtain ⟨X, HX⟩ : ∃ X, RowKit.Hid (loopX (letterX la lb) F (bitsL l) lim s = X) := ⟨_, Lib.hid rfl⟩
  rw [HX.out]
  have hga := World.grownBy_alloc w (.cells #[.pointer (some ⟨ca, 0, none⟩), .pointer (some ⟨cb, 0, none⟩)] 135) none
  have HLA := Lib.hid (And.intro hca.len hcb.len)
  have hI : LetI w (w.alloc (.cells #[.pointer (some ⟨ca, 0, none⟩), .pointer (some ⟨cb, 0, none⟩)] 135)) g r H A n c l lim w.heap.size ca cb la lb v v s :=
    ⟨hm.still hga, Moves.grown v hga (.inl rfl), hca.beyond (Nat.le_refl _) hga (fun _ h => by cases h), hcb.beyond (Nat.le_refl _) hga (fun _ h => by cases h), Row.new w _ _, fun e => by have := (hm.ownLt e.symm).2; omega, hm.lt⟩
  have HI := Lib.hid hI
  have HF := Lib.hid hF
  clear hI hm hca hcb hga hF
  go_enter Tryz.func109, Tryz.ntmps109
  go_wp2_with fail
  generalize w.alloc (.cells #[.pointer (some ⟨ca, 0, none⟩), .pointer (some ⟨cb, 0, none⟩)] 135) = w0 at HI ⊢
  generalize w.heap.size = xb at HI ⊢
  go_loopw [4] (fun _ wr => ∃ (v' : Value) (s' : Sx), LetI w wr g r H A n c l lim xb ca cb la lb v v' s' ∧ ∃ F', 8 * n - s'.pos < F' ∧ loopX (letterX la lb) F' (bitsL l) lim s' = X) (fun _ wr => 8 * n - posOf r wr)
  case atStart => exact ⟨v, s, HI.out, F, HF.out, HX.out⟩
  case round =>
    clear HI HX HF
    obtain ⟨v', s', hI, F', hF', hX'⟩ := hrel
    have k0 : wr.cell? ⟨xb, 0, none⟩ = some (.pointer (some ⟨ca, 0, none⟩)) := hI.row.cell 0
    obtain ⟨F1, rfl⟩ : ∃ F1, F' = F1 + 1 := ⟨F' - 1, by omega⟩
    have HI := Lib.hid hI
    have HF1 : RowKit.Hid (8 * n - s'.pos ≤ F1) := Lib.hid (by omega)
    have HX1 := Lib.hid hX'
    have HPO := Lib.hid hI.ms.posOf
    clear hI hF' hX'
    go_wp2_with fail
    refine (msign_any ca la wr HI.out.ms (HI.out.fa.cd HI.out.mv.size)).mono ?_
    rintro e w1 (⟨x, s1, v1, hx1, hm1, hg1, he1⟩ | ⟨k2, b2, v1, hx1, rfl, hb2, hc2, hg1⟩)
    rotate_left
    · exact ⟨rfl, Out.passed HI.out.mv (by rw [← HX1.out]; exact loop_no (letter_no hx1)) hb2 hc2 hg1⟩
    obtain rfl := he1
    have hsf := sign_facts hx1
    have hI1 := HI.out.step hm1 hg1
    have c3 := hm1.cell3
    have f3 := hm1.thawed 3
    have hsp := hm1.sp
    have hle := hm1.le
    have hnn := hm1.nn
    obtain ⟨hm2, hg2⟩ := hm1.steps 1 (by have := HI.out.ms.sp; omega) ((s1.steps : Int) + 1) (by simp)
    have HI2 := Lib.hid (hI1.step hm2 hg2)
    have HL := Lib.hid (letter_at (lb := lb) hx1)
    have hx320 : x < 320 := by have := HLA.out.1; omega
    have HP : RowKit.Hid (s'.pos < s1.pos ∧ s1.pos ≤ 8 * n) := Lib.hid ⟨hsf.2.1, hle⟩
    have hst : s1.steps ≤ 8000000 := by omega
    clear hsf hI1 hsp hle hnn hm2 hg2 hx1 hm1 hg1 k0
    unfold letterK at HL
    obtain ⟨s2, hs2⟩ : ∃ s2 : Sx, (⟨s1.pos, s1.out, s1.steps + 1⟩ : Sx) = s2 := ⟨_, rfl⟩
    have HP2 : RowKit.Hid (s'.pos < s2.pos ∧ s2.pos ≤ 8 * n) := Lib.hid (by rw [← hs2]; exact HP.out)
    by_cases h256 : x = 256
    · subst h256
      rw [if_pos rfl, hs2] at HL
      rw [hs2] at HI2
      have HXE : RowKit.Hid (X = .ok ((), s2)) := Lib.hid (by rw [← HX1.out]; exact loop_end HL.out)
      clear HL
      go_wp2_with fail
      generalize w1.setCell ⟨g, 3, none⟩ (.int .i64 ((s1.steps : Int) + 1)) = w2 at HI2 ⊢
      (try simp only [Exit.inBlock, Exit.then])
      refine bodyPost_ret (results_none rfl _ _ _) rfl ?_
      exact .inl ⟨(), s2, v1, HXE.out, HI2.out.ms, HI2.out.mv, rfl⟩
    rw [if_neg h256] at HL
    by_cases hlt : x < 256
    · rw [if_pos hlt, hs2] at HL
      rw [hs2] at HI2
      have hd : decide ((x : Int) < 256) = true := decide_eq_true (by omega)
      go_wp2_with fail
      generalize w1.setCell ⟨g, 3, none⟩ (.int .i64 ((s1.steps : Int) + 1)) = w2 at HI2 ⊢
      clear c3 f3 hst hs2
      refine (room_any 1 (by omega) w2 HI2.out.ms).mono ?_
      rintro e w3 (⟨u3, s3, v3, hx3, hm3, hg3, he3⟩ | ⟨k2, b2, v3, hx3, rfl, hb2, hc2, hg3⟩)
      rotate_left
      · refine ⟨rfl, Out.passed HI2.out.mv ?_ hb2 hc2 hg3⟩
        rw [← HX1.out]
        refine loop_no ?_
        rw [HL.out]
        refine err_bind ?_
        unfold putX
        rw [if_pos (room_err hx3).2, (room_err hx3).1]
      obtain rfl := he3
      have hh := room_ok hx3
      rw [hh.1] at hm3
      have HI3 := Lib.hid (HI2.out.step hm3 hg3)
      have HRM := Lib.hid hh.2
      have HXN : RowKit.Hid (loopX (letterX la lb) F1 (bitsL l) lim ⟨s2.pos, s2.out ++ [UInt8.ofNat x], s2.steps⟩ = X) := Lib.hid (by
        rw [← HX1.out]
        refine (loop_go ?_).symm
        rw [HL.out]
        refine ok_bind (a := ()) (s1 := ⟨s2.pos, s2.out ++ [UInt8.ofNat x], s2.steps⟩) ?_ rfl
        unfold putX
        rw [if_neg (by have := HRM.out; omega)])
      have cv := HI3.out.ms.cell1
      have HB : RowKit.Hid (g + 1 ≤ w3.heap.size) := Lib.hid HI3.out.ms.lt
      have HS : RowKit.Hid (s2.out.length + 1 ≤ 4000000) := Lib.hid (by have := HI3.out.ms.lm; have := HRM.out; omega)
      have hx8 : (x : Int) % 256 = (x : Int) := by omega
      have HU : RowKit.Hid ((#[Value.int .u8 (x : Int)] : Array Value).toList = us [UInt8.ofNat x]) := Lib.hid (by simp [us, of_lt hlt])
      have HQ : RowKit.Hid ((s2.out ++ [UInt8.ofNat x]).length = s2.out.length + 1) := Lib.hid (by simp)
      clear hh hm3 hg3 hx3 HL HI2
      go_wp2_with (at_builtin; refine push8b w3 rfl (.tmp 38) (.tmp 41) rfl (g + 1) v3 s2.out [UInt8.ofNat x] _ 1 rfl rfl HI3.out.ms.own HU.out rfl HB.out HS.out ?_)
      intro v6 w6 ho6 hg6 hf6
      obtain ⟨A6, c6, hv6⟩ := ho6.slice
      rw [HQ.out] at hv6
      obtain ⟨q6, hq6⟩ : ∃ q6, s2.out.length + 1 = q6 := ⟨_, rfl⟩
      rw [hq6] at hv6
      subst hv6
      obtain ⟨fl, fd, hrow, _⟩ := HI3.out.ms.fx
      have hr6 := hrow.grown hg6 (HI3.out.ms.ne (Nat.le_refl _))
      have c61 : w6.cell? ⟨g, 1, none⟩ = some v3 := hr6.cell 1
      have f61 := hr6.thawed 1
      obtain ⟨hM7, hG7⟩ := HI3.out.ms.text hg6 ho6 hf6 (by rw [HQ.out]; exact HRM.out)
      have HI7 := Lib.hid (HI3.out.step hM7 hG7)
      clear hM7 hG7 hrow hr6 ho6 hg6 hf6 hq6 cv
      go_wp2_with fail
      generalize w6.setCell ⟨g, 1, none⟩ (.slice A6 q6 c6) = w7 at HI7 ⊢
      go_roundw
      case rel => exact ⟨_, _, HI7.out, F1, by show 8 * n - s2.pos < F1; have := HP2.out; have := HF1.out; omega, HXN.out⟩
      case measure => rw [HI7.out.ms.posOf, HPO.out]; show 8 * n - s2.pos < _; have := HP2.out; omega
    · rw [if_neg hlt, hs2] at HL
      rw [hs2] at HI2
      have hd : decide ((x : Int) < 256) = false := decide_eq_false (by omega)
      have hd2 : ((x : Int) == 256) = false := by rw [beq_eq_false_iff_ne]; omega
      have hx257 : 257 ≤ x := by omega
      unfold farK at HL
      go_wp2_with fail
      generalize w1.setCell ⟨g, 3, none⟩ (.int .i64 ((s1.steps : Int) + 1)) = w2 at HI2 ⊢
      clear c3 f3 hst hs2 h256 hlt
      refine (mlen_any x (by omega) hx257 w2 HI2.out.ms).mono ?_
      rintro e w3 (⟨len, s3, v3, hx3, hm3, hg3, he3⟩ | ⟨k2, b2, v3, hx3, rfl, hb2, hc2, hg3⟩)
      rotate_left
      · refine ⟨rfl, Out.passed HI2.out.mv ?_ hb2 hc2 hg3⟩
        rw [← HX1.out]
        refine loop_no ?_
        rw [HL.out]
        exact err_bind hx3
      obtain rfl := he3
      have hlf := length_facts hx3 hx257
      have HI3 := Lib.hid (HI2.out.step hm3 hg3)
      have HL3 : RowKit.Hid (letterX la lb (bitsL l) lim s' = _) := Lib.hid (HL.out.trans (bind_go hx3 rfl).symm)
      have hlen : len ≤ 300 := hlf.1
      have HP3 : RowKit.Hid (s'.pos < s3.pos) := Lib.hid (by have := HP2.out; omega)
      have k1 : w3.cell? ⟨xb, 1, none⟩ = some (.pointer (some ⟨cb, 0, none⟩)) := HI3.out.row.cell 1
      clear hlf hm3 hg3 hx3 HI2 HL
      go_wp2_with fail
      refine (msign_any cb lb w3 HI3.out.ms (HI3.out.fb.cd HI3.out.mv.size)).mono ?_
      rintro e w4 (⟨d, s4, v4, hx4, hm4, hg4, he4⟩ | ⟨k2, b2, v4, hx4, rfl, hb2, hc2, hg4⟩)
      rotate_left
      · refine ⟨rfl, Out.passed HI3.out.mv ?_ hb2 hc2 hg4⟩
        rw [← HX1.out]
        refine loop_no ?_
        rw [HL3.out]
        exact err_bind hx4
      obtain rfl := he4
      have hsf := sign_facts hx4
      have HI4 := Lib.hid (HI3.out.step hm4 hg4)
      have HL4 : RowKit.Hid (letterX la lb (bitsL l) lim s' = _) := Lib.hid (HL3.out.trans (bind_go hx4 rfl).symm)
      have hd400 : d ≤ 400 := by have := HLA.out.2; omega
      have HP4 : RowKit.Hid (s'.pos < s4.pos) := Lib.hid (by have := HP3.out; omega)
      clear hsf hm4 hg4 hx4 HI3 HL3 k1
      go_wp2_with fail
      refine (mdist_any d hd400 w4 HI4.out.ms).mono ?_
      rintro e w5 (⟨far, s5, v5, hx5, hm5, hg5, he5⟩ | ⟨k2, b2, v5, hx5, rfl, hb2, hc2, hg5⟩)
      rotate_left
      · refine ⟨rfl, Out.passed HI4.out.mv ?_ hb2 hc2 hg5⟩
        rw [← HX1.out]
        refine loop_no ?_
        rw [HL4.out]
        exact err_bind hx5
      obtain rfl := he5
      have hdf := distance_facts hx5
      have HI5 := Lib.hid (HI4.out.step hm5 hg5)
      have HL5 : RowKit.Hid (letterX la lb (bitsL l) lim s' = _) := Lib.hid (HL4.out.trans (bind_go hx5 rfl).symm)
      have hf1 : 1 ≤ far := hdf.1
      have hf2 : far ≤ 1000000 := by omega
      have HP5 : RowKit.Hid (s'.pos < s5.pos) := Lib.hid (by have := HP4.out; omega)
      clear hdf hm5 hg5 hx5 HI4 HL4
      go_wp2_with fail
      refine (repeat_any len far (by omega) hf1 hf2 w5 HI5.out.ms).mono ?_
      rintro e w6 (⟨u6, s6, v6, hx6, hm6, hg6, he6⟩ | ⟨k2, b2, v6, hx6, rfl, hb2, hc2, hg6⟩)
      rotate_left
      · refine ⟨rfl, Out.passed HI5.out.mv ?_ hb2 hc2 hg6⟩
        rw [← HX1.out]
        refine loop_no ?_
        rw [HL5.out]
        exact err_bind hx6
      obtain rfl := he6
      have HI6 := Lib.hid (HI5.out.step hm6 hg6)
      have HXN : RowKit.Hid (loopX (letterX la lb) F1 (bitsL l) lim s6 = X) := Lib.hid (by
        rw [← HX1.out]
        refine (loop_go ?_).symm
        rw [HL5.out]
        exact ok_bind hx6 rfl)
      have HP6 : RowKit.Hid (s'.pos < s6.pos ∧ s6.pos ≤ 8 * n) := Lib.hid ⟨by
        unfold copyX at hx6
        split at hx6
        · cases hx6
        · split at hx6
          · cases hx6
          · injection hx6 with hx6
            injection hx6 with _ hx6
            rw [← hx6]; exact HP5.out, hm6.le⟩
      clear hm6 hg6 hx6 HI5 HL5
      go_wp2_with fail
      go_roundw
      case rel => exact ⟨_, _, HI6.out, F1, by have := HP6.out; have := HF1.out; omega, HXN.out⟩
      case measure => rw [HI6.out.ms.posOf, HPO.out]; have := HP6.out; omega
end Go.Proofs.YtpnnlhegncbfaaaGreatDoor
namespace Go.Proofs.YtpnnlhegncbfaaaGreatDoor
set_option maxRecDepth 20000
open Go.RowKit

variable {g r H : Nat} {A : Option Addr} {n c : Nat} {l : List UInt8} {lim : Nat} {v : Value} {s : Sx}
theorem is_take (ll : List Nat) (k : Nat) : (is (ints64I ll)).take k = is (ints64I (ll.take k)) := by simp [is, ints64I, List.map_take]
theorem is_drop (ll : List Nat) (k : Nat) : (is (ints64I ll)).drop k = is (ints64I (ll.drop k)) := by simp [is, ints64I, List.map_drop]
theorem is_at {ll : List Nat} {k z : Nat} (h : k < ll.length) (hz : ll.getD k 0 = z) : (is (ints64I ll))[k]? = some (.int .i64 (z : Int)) := by
  rw [List.getD_eq_getElem?_getD, List.getElem?_eq_getElem h] at hz
  subst hz
  simp only [is, ints64I, List.getElem?_map, List.getElem?_eq_getElem h, Option.map_some, Option.getD_some]
  rfl
theorem low_take {ll : List Nat} (h : Low ll) (k : Nat) : Low (ll.take k) := fun x hx => h x (List.mem_of_mem_take hx)
theorem low_drop {ll : List Nat} (h : Low ll) (k : Nat) : Low (ll.drop k) := fun x hx => h x (List.mem_of_mem_drop hx)
/-- A code in the blocks from lo to hi. -/
structure CL (w : World) (g : Nat) (v : Value) (lo hi a : Nat) (ls : List Nat) : Prop where
  hl : HL w lo hi a ls
  g : g < lo
  hi : hi ≤ w.heap.size
  own : ∀ k, v.ownBlock = some k → k < lo
theorem CL.grown {w w' : World} {g : Nat} {v : Value} {lo hi a : Nat} {ls : List Nat} {q : Option Nat} (h : CL w g v lo hi a ls) (hg : w.grownBy w' q) (hq : ∀ b, q = some b → b < lo ∨ hi ≤ b) : CL w' g v lo hi a ls :=
  ⟨h.hl.keep fun k k1 k2 => hg.block k (Nat.lt_of_lt_of_le k2 h.hi) (fun e => by have := hq k e.symm; omega), h.g, Nat.le_trans h.hi hg.size, h.own⟩
theorem CL.cdh {w : World} {g : Nat} {v : Value} {lo hi a : Nat} {ls : List Nat} (h : CL w g v lo hi a ls) : CDH w w.heap.size g v a ls := ⟨lo, hi, h.hl, h.g, h.hi, fun k hk => .inl (h.own k hk)⟩
theorem MS.cl {w w' : World} (h : MS w g r H A n c l lim v s) {a : Nat} {ls : List Nat} (hl : HL w' w.heap.size w'.heap.size a ls) : CL w' g v w.heap.size w'.heap.size a ls :=
  ⟨hl, h.lt, Nat.le_refl _, fun _ hk => (h.ownLt hk).2⟩
/-- The result's block. -/
def RB (w : World) (rb : Nat) (v : Value) : Prop := Row w rb #[.pointer none, .pointer none] 135 ∧ some rb ≠ v.ownBlock
theorem RB.moves {w w' : World} {rb g r : Nat} {v v' : Value} (h : RB w rb v) (hm : Moves w w' g r v v') (h1 : rb ≠ g) (h2 : rb ≠ r) : RB w' rb v' :=
  ⟨by unfold Row; rw [hm.block rb h.1.lt h1 h2 h.2]; exact h.1, hm.apart h.1.lt h.2⟩
theorem RB.grown {w w' : World} {rb : Nat} {v : Value} {q : Option Nat} (h : RB w rb v) (hg : w.grownBy w' q) (hq : some rb ≠ q) : RB w' rb v := ⟨h.1.grown hg hq, h.2⟩
def toldAns (g : Nat) (p : List Nat × List Nat) (e : Ending) (w' : World) (v' : Value) : Prop :=
  ∃ a b, e = .returned (.agg #[.pointer (some ⟨a, 0, none⟩), .pointer (some ⟨b, 0, none⟩)]) ∧ CDH w' w'.heap.size g v' a p.1 ∧ CDH w' w'.heap.size g v' b p.2
/-- What is behind the helpers' code. -/
def toldK (a b : Nat) (h : List Nat) : X (List Nat × List Nat) :=
  bindX (lensX h (257 + a + (1 + b)) (257 + a + (1 + b) + 1) []) fun l =>
    if right (l.take (257 + a)) false = false ∨ right (l.drop (257 + a)) true = false ∨ l.getD 256 0 = 0 then failX 2 else pureX (l.take (257 + a), l.drop (257 + a))
theorem told_eq : toldX = bindX (numX 5) fun a => bindX (numX 5) fun b => bindX (numX 4) fun c => if 286 < 257 + a ∨ 30 < 1 + b then failX 2 else bindX (helperX (4 + c)) (toldK a b) := by
  unfold toldX helperX
  congr 1; funext a; congr 1; funext b; congr 1; funext c
  by_cases h : 286 < 257 + a ∨ 30 < 1 + b
  · rw [if_pos h, if_pos h]
  · rw [if_neg h, if_neg h]
    funext L lim s
    show bindX _ _ L lim s = bindX (bindX _ _) _ L lim s
    unfold bindX
    cases helpX (4 + c) 0 (List.replicate 19 0) L lim s with
    | error e => rfl
    | ok q =>
      obtain ⟨h, s1⟩ := q
      simp only [helperK]
      cases hr : right h false with
      | false => rfl
      | true => rfl

set_option maxHeartbeats 4000000 in
set_option maxRecDepth 20000 in
theorem told_any (w : World) (hm : MS w g r H A n c l lim v s) :
    Calls Tryz.prog 111 #[.pointer (some ⟨g, 0, none⟩)] w (Out w g r H A n c l lim v (toldX (bitsL l) lim s) (toldAns g)) := by
  obtain ⟨X, HX⟩ : ∃ X, RowKit.Hid (toldX (bitsL l) lim s = X) := ⟨_, Lib.hid rfl⟩
  rw [HX.out]
  have hX := HX.out
  rw [told_eq] at hX
  have hga := World.grownBy_alloc w (.cells #[.pointer none, .pointer none] 135) none
  have HM0 := Lib.hid (hm.still hga)
  have HG0 : RowKit.Hid (Moves w (w.alloc (.cells #[.pointer none, .pointer none] 135)) g r v v) := Lib.hid (Moves.grown v hga (.inl rfl))
  have HB0 : RowKit.Hid (RB (w.alloc (.cells #[.pointer none, .pointer none] 135)) w.heap.size v) := Lib.hid ⟨Row.new w _ _, fun e => by have := (hm.ownLt e.symm).2; omega⟩
  have HR0 : RowKit.Hid (w.heap.size ≠ g ∧ w.heap.size ≠ r ∧ H ≤ w.heap.size ∧ w.heap.size < (w.alloc (.cells #[.pointer none, .pointer none] 135)).heap.size) := Lib.hid ⟨by have := hm.lt; omega, by have := hm.rrow.lt; omega, hm.hs, by simp⟩
  have HX0 := Lib.hid hX
  clear hX hga hm HX
  go_enter Tryz.func111, Tryz.ntmps111
  go_wp2_with fail
  generalize w.alloc (.cells #[.pointer none, .pointer none] 135) = w0 at HM0 HG0 HB0 HR0 ⊢
  generalize hrb : w.heap.size = rb at HB0 HR0 ⊢
  have HRW : RowKit.Hid (w.heap.size ≤ rb) := Lib.hid (Nat.le_of_eq hrb)
  clear hrb
  refine (mnum_any 5 (by omega) w0 HM0.out).mono ?_
  rintro e w1 (⟨a, s1, v1, hx1, hm1, hg1, he1⟩ | ⟨k2, b2, v1, hx1, rfl, hb2, hc2, hg1⟩)
  rotate_left
  · exact ⟨rfl, Out.passed HG0.out (bind_err hx1 HX0.out) hb2 hc2 hg1⟩
  obtain rfl := he1
  have ha : a < 32 := num_lt hx1
  have HM1 := Lib.hid hm1
  have HG1 := Lib.hid (HG0.out.trans hg1)
  have HB1 := Lib.hid (HB0.out.moves hg1 HR0.out.1 HR0.out.2.1)
  have HX1 := Lib.hid (bind_go hx1 HX0.out)
  clear hx1 hm1 hg1 HM0 HG0 HB0 HX0
  obtain ⟨la, hla⟩ : ∃ la, a + 257 = la := ⟨_, rfl⟩
  have ea : (a : Int) + 257 = (la : Int) := by omega
  go_wp2_with fail
  refine (mnum_any 5 (by omega) w1 HM1.out).mono ?_
  rintro e w2 (⟨b, s2, v2, hx2, hm2, hg2, he2⟩ | ⟨k2, b2, v2, hx2, rfl, hb2, hc2, hg2⟩)
  rotate_left
  · exact ⟨rfl, Out.passed HG1.out (bind_err hx2 HX1.out) hb2 hc2 hg2⟩
  obtain rfl := he2
  have hb : b < 32 := num_lt hx2
  have HM2 := Lib.hid hm2
  have HG2 := Lib.hid (HG1.out.trans hg2)
  have HB2 := Lib.hid (HB1.out.moves hg2 HR0.out.1 HR0.out.2.1)
  have HX2 := Lib.hid (bind_go hx2 HX1.out)
  clear hx2 hm2 hg2 HM1 HG1 HB1 HX1 ea
  obtain ⟨lb, hlb⟩ : ∃ lb, b + 1 = lb := ⟨_, rfl⟩
  have eb : (b : Int) + 1 = (lb : Int) := by omega
  go_wp2_with fail
  refine (mnum_any 4 (by omega) w2 HM2.out).mono ?_
  rintro e w3 (⟨d, s3, v3, hx3, hm3, hg3, he3⟩ | ⟨k2, b2, v3, hx3, rfl, hb2, hc2, hg3⟩)
  rotate_left
  · exact ⟨rfl, Out.passed HG2.out (bind_err hx3 HX2.out) hb2 hc2 hg3⟩
  obtain rfl := he3
  have hd16 : d < 16 := num_lt hx3
  have HM3 := Lib.hid hm3
  have HG3 := Lib.hid (HG2.out.trans hg3)
  have HB3 := Lib.hid (HB2.out.moves hg3 HR0.out.1 HR0.out.2.1)
  have hX3 := bind_go hx3 HX2.out
  clear hx3 hm3 hg3 HM2 HG2 HB2 HX2 eb
  obtain ⟨lc, hlc⟩ : ∃ lc, d + 4 = lc := ⟨_, rfl⟩
  have ec : (d : Int) + 4 = (lc : Int) := by omega
  by_cases hbad : 286 < 257 + a ∨ 30 < 1 + b
  · rw [if_pos hbad] at hX3
    have HX3 : RowKit.Hid (X = .error 2) := Lib.hid hX3.symm
    clear hX3
    by_cases h1 : 286 < 257 + a
    · have d1 : decide ((la : Int) ≤ 286) = false := decide_eq_false (by omega)
      clear hbad h1
      go_wp2_with fail
      refine (must_no w3 _ (by first | rfl | (simp; omega))).mono ?_
      rintro e w4 ⟨rfl, rfl⟩
      exact ⟨rfl, Out.thrown HX3.out HG3.out 2 rfl⟩
    · have d1 : decide ((la : Int) ≤ 286) = true := decide_eq_true (by omega)
      have d2 : decide ((lb : Int) ≤ 30) = false := decide_eq_false (by omega)
      clear hbad h1
      go_wp2_with fail
      refine (must_no w3 _ (by first | rfl | (simp; omega))).mono ?_
      rintro e w4 ⟨rfl, rfl⟩
      exact ⟨rfl, Out.thrown HX3.out HG3.out 2 rfl⟩
  rw [if_neg hbad, show 4 + d = lc by omega] at hX3
  have HX3 := Lib.hid hX3
  have d1 : decide ((la : Int) ≤ 286) = true := decide_eq_true (by omega)
  have d2 : decide ((lb : Int) ≤ 30) = true := decide_eq_true (by omega)
  obtain ⟨tt, htt⟩ : ∃ tt, la + lb = tt := ⟨_, rfl⟩
  have et : (la : Int) + (lb : Int) = (tt : Int) := by omega
  have htt2 : 257 + a + (1 + b) = tt := by omega
  have HTA : RowKit.Hid (257 + a = la) := Lib.hid (by omega)
  have HTT := Lib.hid htt2
  have ht320 : tt ≤ 320 := by omega
  have hla0 : 257 ≤ la := by omega
  have hla1 : la < tt := by omega
  have hlc19 : lc ≤ 19 := by omega
  clear hX3 hbad htt2
  go_wp2_with fail
  refine (must_ok w3 _ (by first | rfl | (simp; omega))).mono ?_
  rintro e w4 ⟨rfl, rfl⟩
  clear d1 d2 hlc ec
  go_wp2_with fail
  refine (helper_any lc hlc19 w3 HM3.out).mono ?_
  rintro e w4 (⟨h, s4, v4, hx4, hm4, hg4, h19, hp, rfl, hcd⟩ | ⟨k2, b2, v4, hx4, rfl, hb2, hc2, hg4⟩)
  rotate_left
  · exact ⟨rfl, Out.passed HG3.out (bind_err hx4 HX3.out) hb2 hc2 hg4⟩
  have HM4 := Lib.hid hm4
  have HG4 := Lib.hid (HG3.out.trans hg4)
  have HB4 := Lib.hid (HB3.out.moves hg4 HR0.out.1 HR0.out.2.1)
  have HX4 := Lib.hid (bind_go hx4 HX3.out)
  have HC4 := Lib.hid hcd
  have H19 := Lib.hid h19
  clear hx4 hm4 hg4 hcd h19 HM3 HG3 HB3 HX3
  go_wp2_with fail
  refine (lengths_any hp tt h H19.out ht320 w4 HM4.out HC4.out).mono ?_
  rintro e w5 (⟨ll, s5, v5, hx5, hm5, hg5, hlen, hlow, A2, c2, rfl, hrd, hcz, htc⟩ | ⟨k2, b2, v5, hx5, rfl, hb2, hc2, hg5⟩)
  rotate_left
  · refine ⟨rfl, Out.passed HG4.out ?_ hb2 hc2 hg5⟩
    have hX4 := HX4.out
    unfold toldK at hX4
    rw [HTT.out] at hX4
    exact bind_err hx5 hX4
  have hX5 : (if right (ll.take la) false = false ∨ right (ll.drop la) true = false ∨ ll.getD 256 0 = 0 then (failX 2 : Go.Proofs.YtpnnlhegncbfaaaGreatDoor.X (List Nat × List Nat)) else pureX (ll.take la, ll.drop la)) (bitsL l) lim s5 = X := by
    have hX4 := HX4.out
    unfold toldK at hX4
    rw [HTT.out, HTA.out] at hX4
    have h9 := bind_go hx5 hX4
    exact h9
  obtain ⟨bb, oo, rfl, hbb, hcell⟩ := hrd.2 (by omega)
  have HRD := Lib.hid hrd
  have HM5 := Lib.hid hm5
  have HG5 := Lib.hid (HG4.out.trans hg5)
  have HB5 := Lib.hid (HB4.out.moves hg5 HR0.out.1 HR0.out.2.1)
  have HX5 := Lib.hid hX5
  have HLEN := Lib.hid hlen
  have HLOW := Lib.hid hlow
  have hne : ¬ c2 = la := by omega
  have hlac : la ≤ c2 := by omega
  have hlat : la ≤ tt := by omega
  clear hX5 hx5 hm5 hg5 hcz hlen hlow hcell hbb hrd HM4 HG4 HB4 HX4 HC4 et
  obtain ⟨z, hz⟩ : ∃ z, ll.getD 256 0 = z := ⟨_, rfl⟩
  have HZ := Lib.hid hz
  rw [hz] at HX5
  have hz15 : z ≤ 15 := by
    rw [← hz, List.getD_eq_getElem?_getD]
    rw [List.getElem?_eq_getElem (show 256 < ll.length by rw [HLEN.out]; omega)]
    exact HLOW.out _ (List.getElem_mem _)
  clear hz
  go_wp2_with fail
  have HMc := Lib.hid (HM5.out.still (drew_grown w5))
  have HGc := Lib.hid (HG5.out.trans (Moves.grown (g := g) (r := r) v5 (drew_grown w5) (.inl rfl)))
  have HBc : RowKit.Hid (RB w5.drew rb v5) := Lib.hid HB5.out
  have HDc : RowKit.Hid (Rd w5.drew w5.drew.heap.size (some ⟨bb, oo, none⟩) tt (is (ints64I ll))) := Lib.hid HRD.out
  have HSc : RowKit.Hid (rb < w5.drew.heap.size) := Lib.hid HB5.out.1.lt
  refine wp_region_any (by kernel_rfl) ?_
  change wpAny _ _ _ _ _ _ _ (World.drew _)
  generalize w5.drew = wc0 at HMc HGc HBc HDc HSc ⊢
  clear HM5 HG5 HB5 HRD
  refine wpAny_take (i := 0) (v := ?_) rfl (by kernel_rfl) (by kernel_rfl) (by kernel_rfl) (fun _ _ _ h => h) (Or.inl ⟨by rfl, ?_⟩) ?_
  rotate_left
  · intro w
    go_simp
    try with_reducible rfl
  refine wpAny_take (i := 1) (v := ?_) rfl (by kernel_rfl) (by kernel_rfl) (by kernel_rfl) (fun _ _ _ h => h) (Or.inl ⟨by rfl, ?_⟩) ?_
  rotate_left
  · intro w
    go_simp
    try with_reducible rfl
  refine wpAny_take (i := 2) (v := ?_) rfl (by kernel_rfl) (by kernel_rfl) (by kernel_rfl) (fun _ _ _ h => h) (Or.inl ⟨by rfl, ?_⟩) ?_
  rotate_left
  · intro w
    go_simp
    try with_reducible rfl
  refine wpAny_take (i := 4) (v := ?_) rfl (by kernel_rfl) (by kernel_rfl) (by kernel_rfl) (fun _ _ _ h => h) (Or.inl ⟨by rfl, ?_⟩) ?_
  rotate_left
  · intro w
    go_simp
    try with_reducible rfl
  refine wpAny_take (i := 5) (v := ?_) rfl (by kernel_rfl) (by kernel_rfl) (by kernel_rfl) (fun _ _ _ h => h) (Or.inl ⟨by rfl, ?_⟩) ?_
  rotate_left
  · intro w
    go_simp
    try with_reducible rfl
  refine wpAny_take (i := 6) (v := ?_) rfl (by kernel_rfl) (by kernel_rfl) (by kernel_rfl) (fun _ _ _ h => h) (Or.inl ⟨by rfl, ?_⟩) ?_
  rotate_left
  · intro w
    go_simp
    try with_reducible rfl
  refine wpAny_ready (rs := [3, 9]) (by kernel_rfl) (by simp) ?_
  refine AllReady.cons rfl (fun K hK => ?_) (AllReady.cons rfl (fun K hK => ?_) AllReady.nil)
  · go_simp
    go_wp2_with fail
    refine (code_anyI _ _ _ (ll.take la) false wc0 (by have h0 := HDc.out.part 0 la (by omega); rw [List.drop_zero, is_take] at h0; exact h0) (by simp) (by rw [List.length_take, HLEN.out]; omega) (low_take HLOW.out la)).mono ?_
    rintro e wc1 ⟨hb, ⟨hrt, a1, rfl, hl⟩ | ⟨hno, bx, rfl, hbx, hcx⟩⟩
    rotate_left
    · refine ⟨rfl, Out.passed HGc.out ?_ hbx hcx (Moves.grown v5 (grown_of_below hb) (.inl rfl))⟩
      rw [← HX5.out, if_pos (.inl hno)]
      rfl
    have HL1 := Lib.hid (HMc.out.cl hl)
    have HT1 := Lib.hid hrt
    have HQ1 := Lib.hid HSc.out
    have HMc := Lib.hid (HMc.out.still (grown_of_below hb))
    have HGc := Lib.hid (HGc.out.trans (Moves.grown v5 (grown_of_below hb) (.inl rfl)))
    have HBc := Lib.hid (HBc.out.grown (grown_of_below hb) (by simp))
    have HDc := Lib.hid (HDc.out.next hb)
    have HSc : RowKit.Hid (rb < wc1.heap.size) := Lib.hid HBc.out.1.lt
    have HV1 := Lib.hid hb.size
    clear hb hl hrt
    go_simp
    refine hK _ _ ?_
    clear hK K
    refine wpAny_ready (rs := [7, 9]) (by kernel_rfl) (by simp) ?_
    refine AllReady.cons rfl (fun K hK => ?_) (AllReady.cons rfl (fun K hK => ?_) AllReady.nil)
    · go_simp
      go_wp2_with fail
      refine (code_anyI _ _ _ (ll.drop la) true wc1 (by have h0 := HDc.out.part la (tt - la) (by omega); rw [is_drop, is_take, List.take_of_length_le (by rw [List.length_drop, HLEN.out]; omega)] at h0; exact h0) (by simp) (by rw [List.length_drop, HLEN.out]; omega) (low_drop HLOW.out la)).mono ?_
      rintro e wc2 ⟨hb, ⟨hrt, a2, rfl, hl⟩ | ⟨hno, bx, rfl, hbx, hcx⟩⟩
      rotate_left
      · refine ⟨rfl, Out.passed HGc.out ?_ hbx hcx (Moves.grown v5 (grown_of_below hb) (.inl rfl))⟩
        rw [← HX5.out, if_pos (.inr (.inl hno))]
        rfl
      have HL2 := Lib.hid (HMc.out.cl hl)
      have HT2 := Lib.hid hrt
      have HQ2 := Lib.hid HSc.out
      have HL1 := Lib.hid (HL1.out.grown (grown_of_below hb) (fun _ h => by cases h))
      have HMc := Lib.hid (HMc.out.still (grown_of_below hb))
      have HGc := Lib.hid (HGc.out.trans (Moves.grown v5 (grown_of_below hb) (.inl rfl)))
      have HBc := Lib.hid (HBc.out.grown (grown_of_below hb) (by simp))
      have HDc := Lib.hid (HDc.out.next hb)
      have HSc : RowKit.Hid (rb < wc2.heap.size) := Lib.hid HBc.out.1.lt
      have HV2 := Lib.hid hb.size
      clear hb hl hrt
      go_simp
      refine hK _ _ ?_
      clear hK K
      refine wpAny_take (i := 8) (v := ?_) rfl (by kernel_rfl) (by kernel_rfl) (by kernel_rfl) (fun _ _ _ h => h) (Or.inl ⟨by rfl, ?_⟩) ?_
      rotate_left
      · intro w
        go_simp
        try with_reducible rfl
      refine wpAny_ready (rs := [9]) (by kernel_rfl) (by simp) ?_
      refine AllReady.cons rfl (fun K hK => ?_) AllReady.nil
      go_simp
      refine hK _ _ ?_
      clear hK K
      have hga := World.grownBy_alloc wc2 (.cells #[.pointer none, .pointer none] 135) none
      obtain ⟨cb, hcb⟩ : ∃ cb, wc2.heap.size = cb := ⟨_, rfl⟩
      have HRc : RowKit.Hid (Row (wc2.alloc (.cells #[.pointer none, .pointer none] 135)) cb #[.pointer none, .pointer none] 135) := Lib.hid (by rw [← hcb]; exact Row.new wc2 _ _)
      have HCR : RowKit.Hid (rb ≠ cb ∧ cb ≠ g ∧ H ≤ cb ∧ some cb ≠ v5.ownBlock ∧ w.heap.size ≤ cb) := Lib.hid (by rw [← hcb]; exact ⟨by have := HSc.out; omega, by have := HMc.out.lt; omega, HMc.out.hs, fun e => by have := (HMc.out.ownLt e.symm).2; omega, HGc.out.size⟩)
      have HO1 : RowKit.Hid (cb < wc0.heap.size ∨ wc1.heap.size ≤ cb) := Lib.hid (.inr (by rw [← hcb]; exact HL1.out.hi))
      have HL1 := Lib.hid (HL1.out.grown hga (fun _ h => by cases h))
      have HO2 : RowKit.Hid (cb < wc1.heap.size ∨ wc2.heap.size ≤ cb) := Lib.hid (.inr (by rw [← hcb]; exact HL2.out.hi))
      have HL2 := Lib.hid (HL2.out.grown hga (fun _ h => by cases h))
      have HMc := Lib.hid (HMc.out.still hga)
      have HGc := Lib.hid (HGc.out.trans (Moves.grown v5 hga (.inl rfl)))
      have HBc := Lib.hid (HBc.out.grown hga (by simp))
      have HDc := Lib.hid (HDc.out.next (below_make hga))
      have HSc := Lib.hid HBc.out.1.lt
      have HCB := Lib.hid HRc.out.lt
      rw [hcb]
      generalize wc2.alloc (.cells #[.pointer none, .pointer none] 135) = wc3 at HMc HGc HBc HDc HSc HRc HCB HL1 HL2 ⊢
      clear hga hcb
      refine wpAny_ready (rs := [10]) (by kernel_rfl) (by simp) ?_
      refine AllReady.cons rfl (fun K hK => ?_) AllReady.nil
      have k0 := HRc.out.cell 0
      have k1 := HRc.out.cell 1
      have kf0 := HRc.out.thawed 0
      have kf1 := HRc.out.thawed 1
      go_simp
      refine hK _ _ ?_
      clear hK K k0 k1 kf0 kf1
      refine wpAny_done (by kernel_rfl) ?_ _
      have hgs : World.grownBy wc3 ((wc3.setCell ⟨cb, 0, none⟩ (.pointer (some ⟨a1, 0, none⟩))).setCell ⟨cb, 1, none⟩ (.pointer (some ⟨a2, 0, none⟩))) (some cb) := (grown_setCell wc3 cb 0 _).trans (grown_setCell _ cb 1 _)
      have hcl1 := HL1.out.grown hgs (fun k e => by injection e with e; subst e; exact HO1.out)
      have hcl2 := HL2.out.grown hgs (fun k e => by injection e with e; subst e; exact HO2.out)
      have hm6 := HMc.out.beyond hgs (fun k e => by injection e with e; subst e; exact ⟨HCR.out.2.2.1, HCR.out.2.2.2.1⟩)
      have hg6 := HGc.out.beyond hgs (fun k e => by injection e with e; subst e; exact HCR.out.2.2.2.2)
      have hb6 := HBc.out.grown hgs (fun e => by injection e with e; exact HCR.out.1 e)
      have hrc6 := (HRc.out.set 0 (.pointer (some ⟨a1, 0, none⟩))).set 1 (.pointer (some ⟨a2, 0, none⟩))
      obtain ⟨b9, o9, e9, hlt9, hc9⟩ := HDc.out.2 (by omega)
      injection e9 with e9
      injection e9 with e91 e92
      subst e91 e92
      have c256 : wc3.cell? ⟨bb, oo + 256, none⟩ = some (.int .i64 (z : Int)) := hc9 256 _ (is_at (by rw [HLEN.out]; omega) HZ.out)
      have hbc : bb ≠ cb := fun e => by
        subst e
        rw [HRc.out.cell, Array.getElem?_eq_none (by show 2 ≤ oo + 256; omega)] at c256
        cases c256
      have c6 := (World.cell?_of_block (w := wc3) (a := ⟨bb, oo + 256, none⟩) (hgs.block bb hlt9 (fun e => by injection e with e; exact hbc e))).trans c256
      have HM6 := Lib.hid hm6
      have HG6 := Lib.hid hg6
      have HB6 := Lib.hid hb6
      have HR6 := Lib.hid hrc6
      have HCL := Lib.hid (And.intro hcl1 hcl2)
      have h256 : 256 < tt := by omega
      have h256i : (256 : Int) < (tt : Int) := by omega
      clear hgs hcl1 hcl2 hm6 hg6 hb6 hrc6 hlt9 hc9 c256 hbc HL1 HL2 HMc HGc HBc HDc HRc HCB HSc
      generalize (wc3.setCell ⟨cb, 0, none⟩ (.pointer (some ⟨a1, 0, none⟩))).setCell ⟨cb, 1, none⟩ (.pointer (some ⟨a2, 0, none⟩)) = w6 at HM6 HG6 HB6 HR6 HCL c6 ⊢
      by_cases hz0 : z = 0
      · have HXE : RowKit.Hid (X = .error 2) := Lib.hid (by rw [← HX5.out, if_pos (.inr (.inr hz0))]; rfl)
        subst hz0
        go_wp2_with fail
        refine (must_no w6 _ (by first | rfl | (simp; omega))).mono ?_
        rintro e w7 ⟨rfl, rfl⟩
        exact ⟨rfl, Out.thrown HXE.out HG6.out 2 rfl⟩
      have hzd : decide (0 < (z : Int)) = true := decide_eq_true (by omega)
      have HXO : RowKit.Hid (X = .ok ((ll.take la, ll.drop la), s5)) := Lib.hid (by
        rw [← HX5.out, if_neg]
        · rfl
        · rintro (h1 | h1 | h1)
          · rw [HT1.out] at h1; cases h1
          · rw [HT2.out] at h1; cases h1
          · exact hz0 h1)
      go_wp2_with fail
      refine (must_ok w6 _ (by first | rfl | (simp; omega))).mono ?_
      rintro e w7 ⟨rfl, rfl⟩
      have q0 := HR6.out.cell 0
      have q1 := HR6.out.cell 1
      have p0 := HB6.out.1.cell 0
      have p1 := HB6.out.1.cell 1
      have pf0 := HB6.out.1.thawed 0
      have pf1 := HB6.out.1.thawed 1
      have q0 : w6.cell? ⟨cb, 0, none⟩ = some (.pointer (some ⟨a1, 0, none⟩)) := q0
      have q1 : w6.cell? ⟨cb, 1, none⟩ = some (.pointer (some ⟨a2, 0, none⟩)) := q1
      have p0 : w6.cell? ⟨rb, 0, none⟩ = some (.pointer none) := p0
      have p1 : w6.cell? ⟨rb, 1, none⟩ = some (.pointer none) := p1
      clear c6 hzd
      go_wp2_with fail
      have hgr : World.grownBy w6 ((w6.setCell ⟨rb, 0, none⟩ (.pointer (some ⟨a1, 0, none⟩))).setCell ⟨rb, 1, none⟩ (.pointer (some ⟨a2, 0, none⟩))) (some rb) := (grown_setCell w6 rb 0 _).trans (grown_setCell _ rb 1 _)
      have hrow := (HB6.out.1.set 0 (.pointer (some ⟨a1, 0, none⟩))).set 1 (.pointer (some ⟨a2, 0, none⟩))
      refine bodyPost_ret (results_cell_row rfl _ _ rb 135 _ (0, 0) _ rfl hrow Tryz.underlying135 rfl size45I) rfl ?_
      exact .inl ⟨(ll.take la, ll.drop la), s5, v5, HXO.out, HM6.out.beyond hgr (fun k e => by injection e with e; subst e; exact ⟨HR0.out.2.2.1, HB6.out.2⟩), HG6.out.beyond hgr (fun k e => by injection e with e; subst e; exact HRW.out), a1, a2, rfl,
        (HCL.out.1.grown hgr (fun k e => by injection e with e; subst e; exact .inl HQ1.out)).cdh, (HCL.out.2.grown hgr (fun k e => by injection e with e; subst e; exact .inl HQ2.out)).cdh⟩
    · go_simp
      refine hK _ _ ?_
      clear hK K
      have hga := World.grownBy_alloc wc1 (.cells #[.pointer none, .pointer none] 135) none
      obtain ⟨cb, hcb⟩ : ∃ cb, wc1.heap.size = cb := ⟨_, rfl⟩
      have HRc : RowKit.Hid (Row (wc1.alloc (.cells #[.pointer none, .pointer none] 135)) cb #[.pointer none, .pointer none] 135) := Lib.hid (by rw [← hcb]; exact Row.new wc1 _ _)
      have HCR : RowKit.Hid (rb ≠ cb ∧ cb ≠ g ∧ H ≤ cb ∧ some cb ≠ v5.ownBlock ∧ w.heap.size ≤ cb) := Lib.hid (by rw [← hcb]; exact ⟨by have := HSc.out; omega, by have := HMc.out.lt; omega, HMc.out.hs, fun e => by have := (HMc.out.ownLt e.symm).2; omega, HGc.out.size⟩)
      have HO1 : RowKit.Hid (cb < wc0.heap.size ∨ wc1.heap.size ≤ cb) := Lib.hid (.inr (by rw [← hcb]; exact HL1.out.hi))
      have HL1 := Lib.hid (HL1.out.grown hga (fun _ h => by cases h))
      have HMc := Lib.hid (HMc.out.still hga)
      have HGc := Lib.hid (HGc.out.trans (Moves.grown v5 hga (.inl rfl)))
      have HBc := Lib.hid (HBc.out.grown hga (by simp))
      have HDc := Lib.hid (HDc.out.next (below_make hga))
      have HSc := Lib.hid HBc.out.1.lt
      have HCB := Lib.hid HRc.out.lt
      rw [hcb]
      generalize wc1.alloc (.cells #[.pointer none, .pointer none] 135) = wc2 at HMc HGc HBc HDc HSc HRc HCB HL1  ⊢
      clear hga hcb
      refine wpAny_ready (rs := [7]) (by kernel_rfl) (by simp) ?_
      refine AllReady.cons rfl (fun K hK => ?_) AllReady.nil
      go_simp
      go_wp2_with fail
      refine (code_anyI _ _ _ (ll.drop la) true wc2 (by have h0 := HDc.out.part la (tt - la) (by omega); rw [is_drop, is_take, List.take_of_length_le (by rw [List.length_drop, HLEN.out]; omega)] at h0; exact h0) (by simp) (by rw [List.length_drop, HLEN.out]; omega) (low_drop HLOW.out la)).mono ?_
      rintro e wc3 ⟨hb, ⟨hrt, a2, rfl, hl⟩ | ⟨hno, bx, rfl, hbx, hcx⟩⟩
      rotate_left
      · refine ⟨rfl, Out.passed HGc.out ?_ hbx hcx (Moves.grown v5 (grown_of_below hb) (.inl rfl))⟩
        rw [← HX5.out, if_pos (.inr (.inl hno))]
        rfl
      have HL2 := Lib.hid (HMc.out.cl hl)
      have HT2 := Lib.hid hrt
      have HQ2 := Lib.hid HSc.out
      have HL1 := Lib.hid (HL1.out.grown (grown_of_below hb) (fun _ h => by cases h))
      have HRc := Lib.hid (HRc.out.below hb HRc.out.lt)
      have HO2 : RowKit.Hid (cb < wc2.heap.size ∨ wc3.heap.size ≤ cb) := Lib.hid (.inl HCB.out)
      have HMc := Lib.hid (HMc.out.still (grown_of_below hb))
      have HGc := Lib.hid (HGc.out.trans (Moves.grown v5 (grown_of_below hb) (.inl rfl)))
      have HBc := Lib.hid (HBc.out.grown (grown_of_below hb) (by simp))
      have HDc := Lib.hid (HDc.out.next hb)
      have HSc : RowKit.Hid (rb < wc3.heap.size) := Lib.hid HBc.out.1.lt
      have HV2 := Lib.hid hb.size
      have HCB : RowKit.Hid (cb < wc3.heap.size) := Lib.hid HRc.out.lt
      clear hb hl hrt
      go_simp
      refine hK _ _ ?_
      clear hK K
      refine wpAny_take (i := 8) (v := ?_) rfl (by kernel_rfl) (by kernel_rfl) (by kernel_rfl) (fun _ _ _ h => h) (Or.inl ⟨by rfl, ?_⟩) ?_
      rotate_left
      · intro w
        go_simp
        try with_reducible rfl
      refine wpAny_ready (rs := [10]) (by kernel_rfl) (by simp) ?_
      refine AllReady.cons rfl (fun K hK => ?_) AllReady.nil
      have k0 := HRc.out.cell 0
      have k1 := HRc.out.cell 1
      have kf0 := HRc.out.thawed 0
      have kf1 := HRc.out.thawed 1
      go_simp
      refine hK _ _ ?_
      clear hK K k0 k1 kf0 kf1
      refine wpAny_done (by kernel_rfl) ?_ _
      have hgs : World.grownBy wc3 ((wc3.setCell ⟨cb, 0, none⟩ (.pointer (some ⟨a1, 0, none⟩))).setCell ⟨cb, 1, none⟩ (.pointer (some ⟨a2, 0, none⟩))) (some cb) := (grown_setCell wc3 cb 0 _).trans (grown_setCell _ cb 1 _)
      have hcl1 := HL1.out.grown hgs (fun k e => by injection e with e; subst e; exact HO1.out)
      have hcl2 := HL2.out.grown hgs (fun k e => by injection e with e; subst e; exact HO2.out)
      have hm6 := HMc.out.beyond hgs (fun k e => by injection e with e; subst e; exact ⟨HCR.out.2.2.1, HCR.out.2.2.2.1⟩)
      have hg6 := HGc.out.beyond hgs (fun k e => by injection e with e; subst e; exact HCR.out.2.2.2.2)
      have hb6 := HBc.out.grown hgs (fun e => by injection e with e; exact HCR.out.1 e)
      have hrc6 := (HRc.out.set 0 (.pointer (some ⟨a1, 0, none⟩))).set 1 (.pointer (some ⟨a2, 0, none⟩))
      obtain ⟨b9, o9, e9, hlt9, hc9⟩ := HDc.out.2 (by omega)
      injection e9 with e9
      injection e9 with e91 e92
      subst e91 e92
      have c256 : wc3.cell? ⟨bb, oo + 256, none⟩ = some (.int .i64 (z : Int)) := hc9 256 _ (is_at (by rw [HLEN.out]; omega) HZ.out)
      have hbc : bb ≠ cb := fun e => by
        subst e
        rw [HRc.out.cell, Array.getElem?_eq_none (by show 2 ≤ oo + 256; omega)] at c256
        cases c256
      have c6 := (World.cell?_of_block (w := wc3) (a := ⟨bb, oo + 256, none⟩) (hgs.block bb hlt9 (fun e => by injection e with e; exact hbc e))).trans c256
      have HM6 := Lib.hid hm6
      have HG6 := Lib.hid hg6
      have HB6 := Lib.hid hb6
      have HR6 := Lib.hid hrc6
      have HCL := Lib.hid (And.intro hcl1 hcl2)
      have h256 : 256 < tt := by omega
      have h256i : (256 : Int) < (tt : Int) := by omega
      clear hgs hcl1 hcl2 hm6 hg6 hb6 hrc6 hlt9 hc9 c256 hbc HL1 HL2 HMc HGc HBc HDc HRc HCB HSc
      generalize (wc3.setCell ⟨cb, 0, none⟩ (.pointer (some ⟨a1, 0, none⟩))).setCell ⟨cb, 1, none⟩ (.pointer (some ⟨a2, 0, none⟩)) = w6 at HM6 HG6 HB6 HR6 HCL c6 ⊢
      by_cases hz0 : z = 0
      · have HXE : RowKit.Hid (X = .error 2) := Lib.hid (by rw [← HX5.out, if_pos (.inr (.inr hz0))]; rfl)
        subst hz0
        go_wp2_with fail
        refine (must_no w6 _ (by first | rfl | (simp; omega))).mono ?_
        rintro e w7 ⟨rfl, rfl⟩
        exact ⟨rfl, Out.thrown HXE.out HG6.out 2 rfl⟩
      have hzd : decide (0 < (z : Int)) = true := decide_eq_true (by omega)
      have HXO : RowKit.Hid (X = .ok ((ll.take la, ll.drop la), s5)) := Lib.hid (by
        rw [← HX5.out, if_neg]
        · rfl
        · rintro (h1 | h1 | h1)
          · rw [HT1.out] at h1; cases h1
          · rw [HT2.out] at h1; cases h1
          · exact hz0 h1)
      go_wp2_with fail
      refine (must_ok w6 _ (by first | rfl | (simp; omega))).mono ?_
      rintro e w7 ⟨rfl, rfl⟩
      have q0 := HR6.out.cell 0
      have q1 := HR6.out.cell 1
      have p0 := HB6.out.1.cell 0
      have p1 := HB6.out.1.cell 1
      have pf0 := HB6.out.1.thawed 0
      have pf1 := HB6.out.1.thawed 1
      have q0 : w6.cell? ⟨cb, 0, none⟩ = some (.pointer (some ⟨a1, 0, none⟩)) := q0
      have q1 : w6.cell? ⟨cb, 1, none⟩ = some (.pointer (some ⟨a2, 0, none⟩)) := q1
      have p0 : w6.cell? ⟨rb, 0, none⟩ = some (.pointer none) := p0
      have p1 : w6.cell? ⟨rb, 1, none⟩ = some (.pointer none) := p1
      clear c6 hzd
      go_wp2_with fail
      have hgr : World.grownBy w6 ((w6.setCell ⟨rb, 0, none⟩ (.pointer (some ⟨a1, 0, none⟩))).setCell ⟨rb, 1, none⟩ (.pointer (some ⟨a2, 0, none⟩))) (some rb) := (grown_setCell w6 rb 0 _).trans (grown_setCell _ rb 1 _)
      have hrow := (HB6.out.1.set 0 (.pointer (some ⟨a1, 0, none⟩))).set 1 (.pointer (some ⟨a2, 0, none⟩))
      refine bodyPost_ret (results_cell_row rfl _ _ rb 135 _ (0, 0) _ rfl hrow Tryz.underlying135 rfl size45I) rfl ?_
      exact .inl ⟨(ll.take la, ll.drop la), s5, v5, HXO.out, HM6.out.beyond hgr (fun k e => by injection e with e; subst e; exact ⟨HR0.out.2.2.1, HB6.out.2⟩), HG6.out.beyond hgr (fun k e => by injection e with e; subst e; exact HRW.out), a1, a2, rfl,
        (HCL.out.1.grown hgr (fun k e => by injection e with e; subst e; exact .inl HQ1.out)).cdh, (HCL.out.2.grown hgr (fun k e => by injection e with e; subst e; exact .inl HQ2.out)).cdh⟩
  · go_simp
    refine hK _ _ ?_
    clear hK K
    have hga := World.grownBy_alloc wc0 (.cells #[.pointer none, .pointer none] 135) none
    obtain ⟨cb, hcb⟩ : ∃ cb, wc0.heap.size = cb := ⟨_, rfl⟩
    have HRc : RowKit.Hid (Row (wc0.alloc (.cells #[.pointer none, .pointer none] 135)) cb #[.pointer none, .pointer none] 135) := Lib.hid (by rw [← hcb]; exact Row.new wc0 _ _)
    have HCR : RowKit.Hid (rb ≠ cb ∧ cb ≠ g ∧ H ≤ cb ∧ some cb ≠ v5.ownBlock ∧ w.heap.size ≤ cb) := Lib.hid (by rw [← hcb]; exact ⟨by have := HSc.out; omega, by have := HMc.out.lt; omega, HMc.out.hs, fun e => by have := (HMc.out.ownLt e.symm).2; omega, HGc.out.size⟩)
    have HMc := Lib.hid (HMc.out.still hga)
    have HGc := Lib.hid (HGc.out.trans (Moves.grown v5 hga (.inl rfl)))
    have HBc := Lib.hid (HBc.out.grown hga (by simp))
    have HDc := Lib.hid (HDc.out.next (below_make hga))
    have HSc := Lib.hid HBc.out.1.lt
    have HCB := Lib.hid HRc.out.lt
    rw [hcb]
    generalize wc0.alloc (.cells #[.pointer none, .pointer none] 135) = wc1 at HMc HGc HBc HDc HSc HRc HCB   ⊢
    clear hga hcb
    refine wpAny_ready (rs := [3]) (by kernel_rfl) (by simp) ?_
    refine AllReady.cons rfl (fun K hK => ?_) AllReady.nil
    go_simp
    go_wp2_with fail
    refine (code_anyI _ _ _ (ll.take la) false wc1 (by have h0 := HDc.out.part 0 la (by omega); rw [List.drop_zero, is_take] at h0; exact h0) (by simp) (by rw [List.length_take, HLEN.out]; omega) (low_take HLOW.out la)).mono ?_
    rintro e wc2 ⟨hb, ⟨hrt, a1, rfl, hl⟩ | ⟨hno, bx, rfl, hbx, hcx⟩⟩
    rotate_left
    · refine ⟨rfl, Out.passed HGc.out ?_ hbx hcx (Moves.grown v5 (grown_of_below hb) (.inl rfl))⟩
      rw [← HX5.out, if_pos (.inl hno)]
      rfl
    have HL1 := Lib.hid (HMc.out.cl hl)
    have HT1 := Lib.hid hrt
    have HQ1 := Lib.hid HSc.out
    have HRc := Lib.hid (HRc.out.below hb HRc.out.lt)
    have HO1 : RowKit.Hid (cb < wc1.heap.size ∨ wc2.heap.size ≤ cb) := Lib.hid (.inl HCB.out)
    have HMc := Lib.hid (HMc.out.still (grown_of_below hb))
    have HGc := Lib.hid (HGc.out.trans (Moves.grown v5 (grown_of_below hb) (.inl rfl)))
    have HBc := Lib.hid (HBc.out.grown (grown_of_below hb) (by simp))
    have HDc := Lib.hid (HDc.out.next hb)
    have HSc : RowKit.Hid (rb < wc2.heap.size) := Lib.hid HBc.out.1.lt
    have HV1 := Lib.hid hb.size
    have HCB : RowKit.Hid (cb < wc2.heap.size) := Lib.hid HRc.out.lt
    clear hb hl hrt
    go_simp
    refine hK _ _ ?_
    clear hK K
    refine wpAny_ready (rs := [7]) (by kernel_rfl) (by simp) ?_
    refine AllReady.cons rfl (fun K hK => ?_) AllReady.nil
    go_simp
    go_wp2_with fail
    refine (code_anyI _ _ _ (ll.drop la) true wc2 (by have h0 := HDc.out.part la (tt - la) (by omega); rw [is_drop, is_take, List.take_of_length_le (by rw [List.length_drop, HLEN.out]; omega)] at h0; exact h0) (by simp) (by rw [List.length_drop, HLEN.out]; omega) (low_drop HLOW.out la)).mono ?_
    rintro e wc3 ⟨hb, ⟨hrt, a2, rfl, hl⟩ | ⟨hno, bx, rfl, hbx, hcx⟩⟩
    rotate_left
    · refine ⟨rfl, Out.passed HGc.out ?_ hbx hcx (Moves.grown v5 (grown_of_below hb) (.inl rfl))⟩
      rw [← HX5.out, if_pos (.inr (.inl hno))]
      rfl
    have HL2 := Lib.hid (HMc.out.cl hl)
    have HT2 := Lib.hid hrt
    have HQ2 := Lib.hid HSc.out
    have HL1 := Lib.hid (HL1.out.grown (grown_of_below hb) (fun _ h => by cases h))
    have HRc := Lib.hid (HRc.out.below hb HRc.out.lt)
    have HO2 : RowKit.Hid (cb < wc2.heap.size ∨ wc3.heap.size ≤ cb) := Lib.hid (.inl HCB.out)
    have HMc := Lib.hid (HMc.out.still (grown_of_below hb))
    have HGc := Lib.hid (HGc.out.trans (Moves.grown v5 (grown_of_below hb) (.inl rfl)))
    have HBc := Lib.hid (HBc.out.grown (grown_of_below hb) (by simp))
    have HDc := Lib.hid (HDc.out.next hb)
    have HSc : RowKit.Hid (rb < wc3.heap.size) := Lib.hid HBc.out.1.lt
    have HV2 := Lib.hid hb.size
    have HCB : RowKit.Hid (cb < wc3.heap.size) := Lib.hid HRc.out.lt
    clear hb hl hrt
    go_simp
    refine hK _ _ ?_
    clear hK K
    refine wpAny_take (i := 8) (v := ?_) rfl (by kernel_rfl) (by kernel_rfl) (by kernel_rfl) (fun _ _ _ h => h) (Or.inl ⟨by rfl, ?_⟩) ?_
    rotate_left
    · intro w
      go_simp
      try with_reducible rfl
    refine wpAny_ready (rs := [10]) (by kernel_rfl) (by simp) ?_
    refine AllReady.cons rfl (fun K hK => ?_) AllReady.nil
    have k0 := HRc.out.cell 0
    have k1 := HRc.out.cell 1
    have kf0 := HRc.out.thawed 0
    have kf1 := HRc.out.thawed 1
    go_simp
    refine hK _ _ ?_
    clear hK K k0 k1 kf0 kf1
    refine wpAny_done (by kernel_rfl) ?_ _
    have hgs : World.grownBy wc3 ((wc3.setCell ⟨cb, 0, none⟩ (.pointer (some ⟨a1, 0, none⟩))).setCell ⟨cb, 1, none⟩ (.pointer (some ⟨a2, 0, none⟩))) (some cb) := (grown_setCell wc3 cb 0 _).trans (grown_setCell _ cb 1 _)
    have hcl1 := HL1.out.grown hgs (fun k e => by injection e with e; subst e; exact HO1.out)
    have hcl2 := HL2.out.grown hgs (fun k e => by injection e with e; subst e; exact HO2.out)
    have hm6 := HMc.out.beyond hgs (fun k e => by injection e with e; subst e; exact ⟨HCR.out.2.2.1, HCR.out.2.2.2.1⟩)
    have hg6 := HGc.out.beyond hgs (fun k e => by injection e with e; subst e; exact HCR.out.2.2.2.2)
    have hb6 := HBc.out.grown hgs (fun e => by injection e with e; exact HCR.out.1 e)
    have hrc6 := (HRc.out.set 0 (.pointer (some ⟨a1, 0, none⟩))).set 1 (.pointer (some ⟨a2, 0, none⟩))
    obtain ⟨b9, o9, e9, hlt9, hc9⟩ := HDc.out.2 (by omega)
    injection e9 with e9
    injection e9 with e91 e92
    subst e91 e92
    have c256 : wc3.cell? ⟨bb, oo + 256, none⟩ = some (.int .i64 (z : Int)) := hc9 256 _ (is_at (by rw [HLEN.out]; omega) HZ.out)
    have hbc : bb ≠ cb := fun e => by
      subst e
      rw [HRc.out.cell, Array.getElem?_eq_none (by show 2 ≤ oo + 256; omega)] at c256
      cases c256
    have c6 := (World.cell?_of_block (w := wc3) (a := ⟨bb, oo + 256, none⟩) (hgs.block bb hlt9 (fun e => by injection e with e; exact hbc e))).trans c256
    have HM6 := Lib.hid hm6
    have HG6 := Lib.hid hg6
    have HB6 := Lib.hid hb6
    have HR6 := Lib.hid hrc6
    have HCL := Lib.hid (And.intro hcl1 hcl2)
    have h256 : 256 < tt := by omega
    have h256i : (256 : Int) < (tt : Int) := by omega
    clear hgs hcl1 hcl2 hm6 hg6 hb6 hrc6 hlt9 hc9 c256 hbc HL1 HL2 HMc HGc HBc HDc HRc HCB HSc
    generalize (wc3.setCell ⟨cb, 0, none⟩ (.pointer (some ⟨a1, 0, none⟩))).setCell ⟨cb, 1, none⟩ (.pointer (some ⟨a2, 0, none⟩)) = w6 at HM6 HG6 HB6 HR6 HCL c6 ⊢
    by_cases hz0 : z = 0
    · have HXE : RowKit.Hid (X = .error 2) := Lib.hid (by rw [← HX5.out, if_pos (.inr (.inr hz0))]; rfl)
      subst hz0
      go_wp2_with fail
      refine (must_no w6 _ (by first | rfl | (simp; omega))).mono ?_
      rintro e w7 ⟨rfl, rfl⟩
      exact ⟨rfl, Out.thrown HXE.out HG6.out 2 rfl⟩
    have hzd : decide (0 < (z : Int)) = true := decide_eq_true (by omega)
    have HXO : RowKit.Hid (X = .ok ((ll.take la, ll.drop la), s5)) := Lib.hid (by
      rw [← HX5.out, if_neg]
      · rfl
      · rintro (h1 | h1 | h1)
        · rw [HT1.out] at h1; cases h1
        · rw [HT2.out] at h1; cases h1
        · exact hz0 h1)
    go_wp2_with fail
    refine (must_ok w6 _ (by first | rfl | (simp; omega))).mono ?_
    rintro e w7 ⟨rfl, rfl⟩
    have q0 := HR6.out.cell 0
    have q1 := HR6.out.cell 1
    have p0 := HB6.out.1.cell 0
    have p1 := HB6.out.1.cell 1
    have pf0 := HB6.out.1.thawed 0
    have pf1 := HB6.out.1.thawed 1
    have q0 : w6.cell? ⟨cb, 0, none⟩ = some (.pointer (some ⟨a1, 0, none⟩)) := q0
    have q1 : w6.cell? ⟨cb, 1, none⟩ = some (.pointer (some ⟨a2, 0, none⟩)) := q1
    have p0 : w6.cell? ⟨rb, 0, none⟩ = some (.pointer none) := p0
    have p1 : w6.cell? ⟨rb, 1, none⟩ = some (.pointer none) := p1
    clear c6 hzd
    go_wp2_with fail
    have hgr : World.grownBy w6 ((w6.setCell ⟨rb, 0, none⟩ (.pointer (some ⟨a1, 0, none⟩))).setCell ⟨rb, 1, none⟩ (.pointer (some ⟨a2, 0, none⟩))) (some rb) := (grown_setCell w6 rb 0 _).trans (grown_setCell _ rb 1 _)
    have hrow := (HB6.out.1.set 0 (.pointer (some ⟨a1, 0, none⟩))).set 1 (.pointer (some ⟨a2, 0, none⟩))
    refine bodyPost_ret (results_cell_row rfl _ _ rb 135 _ (0, 0) _ rfl hrow Tryz.underlying135 rfl size45I) rfl ?_
    exact .inl ⟨(ll.take la, ll.drop la), s5, v5, HXO.out, HM6.out.beyond hgr (fun k e => by injection e with e; subst e; exact ⟨HR0.out.2.2.1, HB6.out.2⟩), HG6.out.beyond hgr (fun k e => by injection e with e; subst e; exact HRW.out), a1, a2, rfl,
      (HCL.out.1.grown hgr (fun k e => by injection e with e; subst e; exact .inl HQ1.out)).cdh, (HCL.out.2.grown hgr (fun k e => by injection e with e; subst e; exact .inl HQ2.out)).cdh⟩
end Go.Proofs.YtpnnlhegncbfaaaGreatDoor
