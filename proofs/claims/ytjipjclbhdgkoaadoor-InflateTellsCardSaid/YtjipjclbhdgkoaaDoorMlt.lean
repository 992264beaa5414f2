/- Contract of letters. -/
import Derived.Test.YtjipjclbhdgkoaaDoorMle
import Derived.Test.YtjipjclbhdgkoaaDoorMln
import Derived.Test.YtjipjclbhdgkoaaDoorMrp
namespace Go.Proofs.YtjipjclbhdgkoaaDoor
open Go.RowKit

variable {g r H : Nat} {A : Option Addr} {n c : Nat} {l : List UInt8} {lim : Nat} {v : Value} {s : Sx}
/-- At which bit the reader is. -/
def posOf (r : Nat) (w : World) : Nat := match w.cell? ⟨r, 1, none⟩ with
  | some (.int _ z) => z.toNat
  | _ => 0
theorem MS.posOf {w : World} (h : MS w g r H A n c l lim v s) : posOf r w = s.pos := by
  unfold Go.Proofs.YtjipjclbhdgkoaaDoor.posOf
  rw [show w.cell? ⟨r, 1, none⟩ = some (.int .i64 (s.pos : Int)) from h.rrow.cell 1]
  simp
theorem CDH.len {w : World} {H g a : Nat} {v : Value} {ls : List Nat} (h : CDH w H g v a ls) : ls.length ≤ 320 := by
  obtain ⟨lo, hi, h1, _⟩ := h
  exact (h1 w fun _ _ _ => rfl).len
def farK (lb : List Nat) (x : Nat) : X Bool := bindX (lengthX x) fun len => bindX (signX lb) fun d => bindX (distanceX d) fun far => bindX (copyX len far) fun _ => pureX false
def letterK (lb : List Nat) (x : Nat) : X Bool := if x = 256 then pureX true else if x < 256 then bindX (putX x) fun _ => pureX false else farK lb x
theorem bind_map {β : Type} (f : X Nat) (k : Nat) (h : Nat → X β) : bindX (bindX f fun y => pureX (k + y)) h = bindX f fun y => h (k + y) := by
  funext L lim s
  unfold bindX pureX
  cases f L lim s with
  | error e => rfl
  | ok q => rfl
theorem far_eq (lb : List Nat) (x : Nat) : (if 285 < x then failX 2 else bindX (numX (lenMore x)) fun y => bindX (signX lb) fun d => if 29 < d then failX 2 else bindX (numX (distMore d)) fun z => bindX (copyX (lenBase x + y) (distSum d + z)) fun _ => pureX false) = farK lb x := by
  unfold farK lengthX
  by_cases h : 285 < x
  · rw [if_pos h, if_pos h]; funext L lim s; rfl
  · rw [if_neg h, if_neg h, bind_map]
    congr 1; funext y; congr 1; funext d
    unfold distanceX
    by_cases h2 : 29 < d
    · rw [if_pos h2, if_pos h2]; funext L lim s; rfl
    · rw [if_neg h2, if_neg h2, bind_map]
theorem letter_at {la lb : List Nat} {L : List UInt8} {x : Nat} {s1 : Sx} (hs : signX la L lim s = .ok (x, s1)) : letterX la lb L lim s = letterK lb x L lim ⟨s1.pos, s1.out, s1.steps + 1⟩ := by
  unfold letterX
  refine ok_bind (f := stepX) rfl (ok_bind (sign_step hs) ?_)
  rw [far_eq]
  rfl
theorem letter_no {la lb : List Nat} {L : List UInt8} {e : Nat} (hs : signX la L lim s = .error e) : letterX la lb L lim s = .error e :=
  ok_bind (f := stepX) rfl (err_bind (sign_step_no hs))
theorem loop_go {body : X Bool} {F : Nat} {L : List UInt8} {s2 : Sx} (h : body L lim s = .ok (false, s2)) : loopX body (F + 1) L lim s = loopX body F L lim s2 := ok_bind h rfl
theorem loop_end {body : X Bool} {F : Nat} {L : List UInt8} {s2 : Sx} (h : body L lim s = .ok (true, s2)) : loopX body (F + 1) L lim s = .ok ((), s2) := ok_bind h rfl
theorem loop_no {body : X Bool} {F e : Nat} {L : List UInt8} (h : body L lim s = .error e) : loopX body (F + 1) L lim s = .error e := err_bind h
theorem len_small : ∀ x : Nat, x < 286 → 257 ≤ x → lenBase x ≤ 258 ∧ lenMore x ≤ 5 := by decide +kernel
theorem dist_small : ∀ x : Nat, x < 30 → 1 ≤ distSum x ∧ distSum x ≤ 24577 ∧ distMore x ≤ 13 := by decide +kernel
theorem length_facts {x len : Nat} {s2 : Sx} (h : lengthX x (bitsL l) lim s = .ok (len, s2)) (h0 : 257 ≤ x) : len ≤ 300 ∧ s.pos ≤ s2.pos ∧ s2.out = s.out ∧ s2.steps = s.steps := by
  unfold lengthX at h
  split at h
  · cases h
  · obtain ⟨y, s1, e1, e2⟩ := bind_ok h
    injection e2 with e2; injection e2 with e3 e4; subst e3 e4
    have hy := num_lt e1
    have hs := len_small x (by omega) h0
    have h5 : 2 ^ lenMore x ≤ 2 ^ 5 := Nat.pow_le_pow_right (by decide) hs.2
    have hn := num_ok e1
    exact ⟨by omega, by omega, hn.2.1, hn.2.2⟩
theorem distance_facts {x far : Nat} {s2 : Sx} (h : distanceX x (bitsL l) lim s = .ok (far, s2)) : 1 ≤ far ∧ far ≤ 100000 ∧ s.pos ≤ s2.pos ∧ s2.out = s.out ∧ s2.steps = s.steps := by
  unfold distanceX at h
  split at h
  · cases h
  · obtain ⟨y, s1, e1, e2⟩ := bind_ok h
    injection e2 with e2; injection e2 with e3 e4; subst e3 e4
    have hy := num_lt e1
    have hs := dist_small x (by omega)
    have h5 : 2 ^ distMore x ≤ 2 ^ 13 := Nat.pow_le_pow_right (by decide) hs.2.2
    have hn := num_ok e1
    exact ⟨by omega, by omega, by omega, hn.2.1, hn.2.2⟩
structure LetI (w wr : World) (g r H : Nat) (A : Option Addr) (n c : Nat) (l : List UInt8) (lim xb ca cb : Nat) (la lb : List Nat) (v v' : Value) (s' : Sx) : Prop where
  ms : MS wr g r H A n c l lim v' s'
  mv : Moves w wr g r v v'
  fa : CDH wr w.heap.size g v' ca la
  fb : CDH wr w.heap.size g v' cb lb
  row : Row wr xb #[.pointer (some ⟨ca, 0, none⟩), .pointer (some ⟨cb, 0, none⟩)] 45
  ap : some xb ≠ v'.ownBlock
  xg : g < xb
theorem LetI.step {w wr w' : World} {xb ca cb : Nat} {la lb : List Nat} {v' v2 : Value} {s' s2 : Sx} (h : LetI w wr g r H A n c l lim xb ca cb la lb v v' s') (hm : MS w' g r H A n c l lim v2 s2) (hg : Moves wr w' g r v' v2) : LetI w w' g r H A n c l lim xb ca cb la lb v v2 s2 := by
  have hrg := h.ms.rg
  have hxg := h.xg
  exact ⟨hm, h.mv.trans hg, h.fa.moves h.mv.size hg hrg, h.fb.moves h.mv.size hg hrg, by unfold Row; rw [hg.block xb h.row.lt (by omega) (by omega) h.ap]; exact h.row, hg.apart h.row.lt h.ap, hxg⟩

set_option maxHeartbeats 2000000 in
set_option maxRecDepth 20000 in
theorem letters_any (ca cb : Nat) (la lb : List Nat) (F : Nat) (w : World) (hm : MS w g r H A n c l lim v s) (hca : CDH w w.heap.size g v ca la) (hcb : CDH w w.heap.size g v cb lb) (hF : 8 * n - s.pos < F) :
    Calls Tryd.prog 39 #[.pointer (some ⟨g, 0, none⟩), .agg #[.pointer (some ⟨ca, 0, none⟩), .pointer (some ⟨cb, 0, none⟩)]] w (Out w g r H A n c l lim v (loopX (letterX la lb) F (bitsL l) lim s) unit) := by
  obtain ⟨X, HX⟩ : ∃ X, RowKit.Hid (loopX (letterX la lb) F (bitsL l) lim s = X) := ⟨_, Lib.hid rfl⟩
  rw [HX.out]
  have hga := World.grownBy_alloc w (.cells #[.pointer (some ⟨ca, 0, none⟩), .pointer (some ⟨cb, 0, none⟩)] 45) none
  have HLA := Lib.hid (And.intro hca.len hcb.len)
  have hI : LetI w (w.alloc (.cells #[.pointer (some ⟨ca, 0, none⟩), .pointer (some ⟨cb, 0, none⟩)] 45)) g r H A n c l lim w.heap.size ca cb la lb v v s :=
    ⟨hm.still hga, Moves.grown v hga (.inl rfl), hca.beyond (Nat.le_refl _) hga (fun _ h => by cases h), hcb.beyond (Nat.le_refl _) hga (fun _ h => by cases h), Row.new w _ _, fun e => by have := (hm.ownLt e.symm).2; omega, hm.lt⟩
  have HI := Lib.hid hI
  have HF := Lib.hid hF
  clear hI hm hca hcb hga hF
  go_enter Tryd.func39, Tryd.ntmps39
  go_wp2_with fail
  generalize w.alloc (.cells #[.pointer (some ⟨ca, 0, none⟩), .pointer (some ⟨cb, 0, none⟩)] 45) = w0 at HI ⊢
  generalize w.heap.size = xb at HI ⊢
  go_loopw [4] (fun _ wr => ∃ (v' : Value) (s' : Sx), LetI w wr g r H A n c l lim xb ca cb la lb v v' s' ∧ ∃ F', 8 * n - s'.pos < F' ∧ loopX (letterX la lb) F' (bitsL l) lim s' = X) (fun _ wr => 8 * n - posOf r wr)
  case atStart => exact ⟨v, s, HI.out, F, HF.out, HX.out⟩
  case round =>
    clear HI HX HF
    obtain ⟨v', s', hI, F', hF', hX'⟩ := hrel
    have k0 : wr.cell? ⟨xb, 0, none⟩ = some (.pointer (some ⟨ca, 0, none⟩)) := hI.row.cell 0
    obtain ⟨F1, rfl⟩ : ∃ F1, F' = F1 + 1 := ⟨F' - 1, by omega⟩
    have HI := Lib.hid hI
    have HF1 : RowKit.Hid (8 * n - s'.pos ≤ F1) := Lib.hid (by omega)
    have HX1 := Lib.hid hX'
    have HPO := Lib.hid hI.ms.posOf
    clear hI hF' hX'
    go_wp2_with fail
    refine (msign_any ca la wr HI.out.ms (HI.out.fa.cd HI.out.mv.size)).mono ?_
    rintro e w1 (⟨x, s1, v1, hx1, hm1, hg1, he1⟩ | ⟨k2, b2, v1, hx1, rfl, hb2, hc2, hg1⟩)
    rotate_left
    · exact ⟨rfl, Out.passed HI.out.mv (by rw [← HX1.out]; exact loop_no (letter_no hx1)) hb2 hc2 hg1⟩
    obtain rfl := he1
    have hsf := sign_facts hx1
    have hI1 := HI.out.step hm1 hg1
    have c3 := hm1.cell3
    have f3 := hm1.thawed 3
    have hsp := hm1.sp
    have hle := hm1.le
    have hnn := hm1.nn
    obtain ⟨hm2, hg2⟩ := hm1.steps 1 (by have := HI.out.ms.sp; omega) ((s1.steps : Int) + 1) (by simp)
    have HI2 := Lib.hid (hI1.step hm2 hg2)
    have HL := Lib.hid (letter_at (lb := lb) hx1)
    have hx320 : x < 320 := by have := HLA.out.1; omega
    have HP : RowKit.Hid (s'.pos < s1.pos ∧ s1.pos ≤ 8 * n) := Lib.hid ⟨hsf.2.1, hle⟩
    have hst : s1.steps ≤ 8000000 := by omega
    clear hsf hI1 hsp hle hnn hm2 hg2 hx1 hm1 hg1 k0
    unfold letterK at HL
    obtain ⟨s2, hs2⟩ : ∃ s2 : Sx, (⟨s1.pos, s1.out, s1.steps + 1⟩ : Sx) = s2 := ⟨_, rfl⟩
    have HP2 : RowKit.Hid (s'.pos < s2.pos ∧ s2.pos ≤ 8 * n) := Lib.hid (by rw [← hs2]; exact HP.out)
    by_cases h256 : x = 256
    · subst h256
      rw [if_pos rfl, hs2] at HL
      rw [hs2] at HI2
      have HXE : RowKit.Hid (X = .ok ((), s2)) := Lib.hid (by rw [← HX1.out]; exact loop_end HL.out)
      clear HL
      go_wp2_with fail
      generalize w1.setCell ⟨g, 3, none⟩ (.int .i64 ((s1.steps : Int) + 1)) = w2 at HI2 ⊢
      (try simp only [Exit.inBlock, Exit.then])
      refine bodyPost_ret (results_none rfl _ _ _) rfl ?_
      exact .inl ⟨(), s2, v1, HXE.out, HI2.out.ms, HI2.out.mv, rfl⟩
    rw [if_neg h256] at HL
    by_cases hlt : x < 256
    · rw [if_pos hlt, hs2] at HL
      rw [hs2] at HI2
      have hd : decide ((x : Int) < 256) = true := decide_eq_true (by omega)
      go_wp2_with fail
      generalize w1.setCell ⟨g, 3, none⟩ (.int .i64 ((s1.steps : Int) + 1)) = w2 at HI2 ⊢
      clear c3 f3 hst hs2
      refine (room_any 1 (by omega) w2 HI2.out.ms).mono ?_
      rintro e w3 (⟨u3, s3, v3, hx3, hm3, hg3, he3⟩ | ⟨k2, b2, v3, hx3, rfl, hb2, hc2, hg3⟩)
      rotate_left
      · refine ⟨rfl, Out.passed HI2.out.mv ?_ hb2 hc2 hg3⟩
        rw [← HX1.out]
        refine loop_no ?_
        rw [HL.out]
        refine err_bind ?_
        unfold putX
        rw [if_pos (room_err hx3).2, (room_err hx3).1]
      obtain rfl := he3
      have hh := room_ok hx3
      rw [hh.1] at hm3
      have HI3 := Lib.hid (HI2.out.step hm3 hg3)
      have HRM := Lib.hid hh.2
      have HXN : RowKit.Hid (loopX (letterX la lb) F1 (bitsL l) lim ⟨s2.pos, s2.out ++ [UInt8.ofNat x], s2.steps⟩ = X) := Lib.hid (by
        rw [← HX1.out]
        refine (loop_go ?_).symm
        rw [HL.out]
        refine ok_bind (a := ()) (s1 := ⟨s2.pos, s2.out ++ [UInt8.ofNat x], s2.steps⟩) ?_ rfl
        unfold putX
        rw [if_neg (by have := HRM.out; omega)])
      have cv := HI3.out.ms.cell1
      have HB : RowKit.Hid (g + 1 ≤ w3.heap.size) := Lib.hid HI3.out.ms.lt
      have HS : RowKit.Hid (s2.out.length + 1 ≤ 4000000) := Lib.hid (by have := HI3.out.ms.lm; have := HRM.out; omega)
      have hx8 : (x : Int) % 256 = (x : Int) := by omega
      have HU : RowKit.Hid ((#[Value.int .u8 (x : Int)] : Array Value).toList = us [UInt8.ofNat x]) := Lib.hid (by simp [us, of_lt hlt])
      have HQ : RowKit.Hid ((s2.out ++ [UInt8.ofNat x]).length = s2.out.length + 1) := Lib.hid (by simp)
      clear hh hm3 hg3 hx3 HL HI2
      go_wp2_with (at_builtin; refine push8b w3 rfl (.tmp 38) (.tmp 41) rfl (g + 1) v3 s2.out [UInt8.ofNat x] _ 1 rfl rfl HI3.out.ms.own HU.out rfl HB.out HS.out ?_)
      intro v6 w6 ho6 hg6 hf6
      obtain ⟨A6, c6, hv6⟩ := ho6.slice
      rw [HQ.out] at hv6
      obtain ⟨q6, hq6⟩ : ∃ q6, s2.out.length + 1 = q6 := ⟨_, rfl⟩
      rw [hq6] at hv6
      subst hv6
      obtain ⟨fl, fd, hrow, _⟩ := HI3.out.ms.fx
      have hr6 := hrow.grown hg6 (HI3.out.ms.ne (Nat.le_refl _))
      have c61 : w6.cell? ⟨g, 1, none⟩ = some v3 := hr6.cell 1
      have f61 := hr6.thawed 1
      obtain ⟨hM7, hG7⟩ := HI3.out.ms.text hg6 ho6 hf6 (by rw [HQ.out]; exact HRM.out)
      have HI7 := Lib.hid (HI3.out.step hM7 hG7)
      clear hM7 hG7 hrow hr6 ho6 hg6 hf6 hq6 cv
      go_wp2_with fail
      generalize w6.setCell ⟨g, 1, none⟩ (.slice A6 q6 c6) = w7 at HI7 ⊢
      go_roundw
      case rel => exact ⟨_, _, HI7.out, F1, by show 8 * n - s2.pos < F1; have := HP2.out; have := HF1.out; omega, HXN.out⟩
      case measure => rw [HI7.out.ms.posOf, HPO.out]; show 8 * n - s2.pos < _; have := HP2.out; omega
    · rw [if_neg hlt, hs2] at HL
      rw [hs2] at HI2
      have hd : decide ((x : Int) < 256) = false := decide_eq_false (by omega)
      have hd2 : ((x : Int) == 256) = false := by rw [beq_eq_false_iff_ne]; omega
      have hx257 : 257 ≤ x := by omega
      unfold farK at HL
      go_wp2_with fail
      generalize w1.setCell ⟨g, 3, none⟩ (.int .i64 ((s1.steps : Int) + 1)) = w2 at HI2 ⊢
      clear c3 f3 hst hs2 h256 hlt
      refine (mlen_any x (by omega) hx257 w2 HI2.out.ms).mono ?_
      rintro e w3 (⟨len, s3, v3, hx3, hm3, hg3, he3⟩ | ⟨k2, b2, v3, hx3, rfl, hb2, hc2, hg3⟩)
      rotate_left
      · refine ⟨rfl, Out.passed HI2.out.mv ?_ hb2 hc2 hg3⟩
        rw [← HX1.out]
        refine loop_no ?_
        rw [HL.out]
        exact err_bind hx3
      obtain rfl := he3
      have hlf := length_facts hx3 hx257
      have HI3 := Lib.hid (HI2.out.step hm3 hg3)
      have HL3 : RowKit.Hid (letterX la lb (bitsL l) lim s' = _) := Lib.hid (HL.out.trans (bind_go hx3 rfl).symm)
      have hlen : len ≤ 300 := hlf.1
      have HP3 : RowKit.Hid (s'.pos < s3.pos) := Lib.hid (by have := HP2.out; omega)
      have k1 : w3.cell? ⟨xb, 1, none⟩ = some (.pointer (some ⟨cb, 0, none⟩)) := HI3.out.row.cell 1
      clear hlf hm3 hg3 hx3 HI2 HL
      go_wp2_with fail
      refine (msign_any cb lb w3 HI3.out.ms (HI3.out.fb.cd HI3.out.mv.size)).mono ?_
      rintro e w4 (⟨d, s4, v4, hx4, hm4, hg4, he4⟩ | ⟨k2, b2, v4, hx4, rfl, hb2, hc2, hg4⟩)
      rotate_left
      · refine ⟨rfl, Out.passed HI3.out.mv ?_ hb2 hc2 hg4⟩
        rw [← HX1.out]
        refine loop_no ?_
        rw [HL3.out]
        exact err_bind hx4
      obtain rfl := he4
      have hsf := sign_facts hx4
      have HI4 := Lib.hid (HI3.out.step hm4 hg4)
      have HL4 : RowKit.Hid (letterX la lb (bitsL l) lim s' = _) := Lib.hid (HL3.out.trans (bind_go hx4 rfl).symm)
      have hd400 : d ≤ 400 := by have := HLA.out.2; omega
      have HP4 : RowKit.Hid (s'.pos < s4.pos) := Lib.hid (by have := HP3.out; omega)
      clear hsf hm4 hg4 hx4 HI3 HL3 k1
      go_wp2_with fail
      refine (mdist_any d hd400 w4 HI4.out.ms).mono ?_
      rintro e w5 (⟨far, s5, v5, hx5, hm5, hg5, he5⟩ | ⟨k2, b2, v5, hx5, rfl, hb2, hc2, hg5⟩)
      rotate_left
      · refine ⟨rfl, Out.passed HI4.out.mv ?_ hb2 hc2 hg5⟩
        rw [← HX1.out]
        refine loop_no ?_
        rw [HL4.out]
        exact err_bind hx5
      obtain rfl := he5
      have hdf := distance_facts hx5
      have HI5 := Lib.hid (HI4.out.step hm5 hg5)
      have HL5 : RowKit.Hid (letterX la lb (bitsL l) lim s' = _) := Lib.hid (HL4.out.trans (bind_go hx5 rfl).symm)
      have hf1 : 1 ≤ far := hdf.1
      have hf2 : far ≤ 1000000 := by omega
      have HP5 : RowKit.Hid (s'.pos < s5.pos) := Lib.hid (by have := HP4.out; omega)
      clear hdf hm5 hg5 hx5 HI4 HL4
      go_wp2_with fail
      refine (repeat_any len far (by omega) hf1 hf2 w5 HI5.out.ms).mono ?_
      rintro e w6 (⟨u6, s6, v6, hx6, hm6, hg6, he6⟩ | ⟨k2, b2, v6, hx6, rfl, hb2, hc2, hg6⟩)
      rotate_left
      · refine ⟨rfl, Out.passed HI5.out.mv ?_ hb2 hc2 hg6⟩
        rw [← HX1.out]
        refine loop_no ?_
        rw [HL5.out]
        exact err_bind hx6
      obtain rfl := he6
      have HI6 := Lib.hid (HI5.out.step hm6 hg6)
      have HXN : RowKit.Hid (loopX (letterX la lb) F1 (bitsL l) lim s6 = X) := Lib.hid (by
        rw [← HX1.out]
        refine (loop_go ?_).symm
        rw [HL5.out]
        exact ok_bind hx6 rfl)
      have HP6 : RowKit.Hid (s'.pos < s6.pos ∧ s6.pos ≤ 8 * n) := Lib.hid ⟨by
        unfold copyX at hx6
        split at hx6
        · cases hx6
        · split at hx6
          · cases hx6
          · injection hx6 with hx6
            injection hx6 with _ hx6
            rw [← hx6]; exact HP5.out, hm6.le⟩
      clear hm6 hg6 hx6 HI5 HL5
      go_wp2_with fail
      go_roundw
      case rel => exact ⟨_, _, HI6.out, F1, by have := HP6.out; have := HF1.out; omega, HXN.out⟩
      case measure => rw [HI6.out.ms.posOf, HPO.out]; have := HP6.out; omega
end Go.Proofs.YtjipjclbhdgkoaaDoor
