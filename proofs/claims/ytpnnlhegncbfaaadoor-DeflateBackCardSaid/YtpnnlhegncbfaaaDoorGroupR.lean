
/- Contract of Take. -/

/- Packed bytes: a sign is told by the next fifteen bits. No program is named here: made ahead of the layer that will need it. -/

/- Which lengths New takes, by 'right'. Made ahead of the layer that will need it. -/
import Derived.Test.YtpnnlhegncbfaaaDoorGroupQ
import Derived.Test.YtpnnlhegncbfaaaDoorGroupJ
import Derived.Test.YtpnnlhegncbfaaaDoorGroupO
import Derived.Test.YtpnnlhegncbfaaaDoorGroupI
namespace Go.Proofs.YtpnnlhegncbfaaaDoor
set_option maxRecDepth 20000
open Go.RowKit

theorem ofInt_i64I (a : Nat) (ha : a < 9223372036854775808) : (BitVec.ofInt 64 (a : Int)).toNat = a := by
  rw [BitVec.ofInt_natCast, BitVec.toNat_ofNat]; exact Nat.mod_eq_of_lt (by omega)
theorem i64_or_nat (a b : Nat) (ha : a < 4611686018427387904) (hb : b < 4611686018427387904) : bits .or .i64 (a : Int) (b : Int) = ((a ||| b : Nat) : Int) := by
  have hx : a ||| b < 2 ^ 62 := Nat.or_lt_two_pow (by omega) (by omega)
  show IntKind.i64.wrap ((BitVec.ofInt 64 (a : Int) ||| BitVec.ofInt 64 (b : Int)).toNat : Int) = _
  rw [BitVec.toNat_or, ofInt_i64I a (by omega), ofInt_i64I b (by omega)]
  simp [IntKind.wrap, IntKind.bits, IntKind.signed]
  omega
theorem or64i (t x : Nat) (ht : t < 2147483648) : bits .or .i64 ((t : Int) * 2) ((x : Int) % 2) = ((2 * t + x % 2 : Nat) : Int) := by
  have h1 : (t : Int) * 2 = ((2 * t : Nat) : Int) := by omega
  have h2 : (x : Int) % 2 = ((x % 2 : Nat) : Int) := by omega
  rw [h1, h2, i64_or_nat _ _ (by omega) (by omega)]
  have := Nat.two_pow_add_eq_or_of_lt (i := 1) (b := x % 2) (by omega) t
  simp at this
  rw [← this]
theorem numB_from {l : List UInt8} (h : Bin l) {p : Nat} (hp : p ≤ l.length) : numB (l.drop p) = numB l / 2 ^ p := by
  have h1 := numB_part h p (l.length - p) (by omega)
  rw [List.take_of_length_le (by rw [List.length_drop]; exact Nat.le_refl _)] at h1
  rw [h1]
  apply Nat.mod_eq_of_lt
  rw [Nat.div_lt_iff_lt_mul (Nat.two_pow_pos _), ← Nat.pow_add, show l.length - p + p = l.length by omega]
  exact numB_lt h
/-- The bits from the bit p on. -/
def left (l : List UInt8) (p : Nat) : List UInt8 := (bitsL l).drop p
theorem bin_left (l : List UInt8) (p : Nat) : Bin (left l p) := (bin_bitsL l).drop p
theorem left_length (l : List UInt8) (p : Nat) : (left l p).length = 8 * l.length - p := by unfold left; rw [List.length_drop, bitsL_length]
theorem pN_left (l : List UInt8) {n : Nat} (hl : l.length = n) (p : Nat) : pN n p 15 = q15 (left l p) := by
  unfold pN q15; rw [left_length, hl, if_neg (by omega)]; rfl
theorem fld_left (l : List UInt8) {p : Nat} (hp : p ≤ 8 * l.length) (q : Nat) : fld (numL l) p q = numB (left l p) % 2 ^ q := by
  unfold fld left
  rw [numB_from (bin_bitsL l) (by rw [bitsL_length]; exact hp), numB_bitsL]

set_option maxHeartbeats 2000000 in
theorem take_any {S : List Nat} {A : Option Addr} {n c : Nat} {l : List UInt8} {p : Nat} (B g r : Nat) (ls : List Nat) (w : World) (lo : Nat) (hL : HL w lo B g ls) (hlo : r < lo) (hR : RA w S r A n c l p) (hS : r ∈ S) (hBr : B ≤ w.heap.size) (hn : n ≤ 1000000) :
    Calls Tryd.prog 104 #[.pointer (some ⟨g, 0, none⟩), .pointer (some ⟨r, 0, none⟩)] w fun e w' => e = .returned (.tuple #[.int .i64 (tkS ls (left l p) : Int), errV (tkE ls (left l p))]) ∧ RA w' S r A n c l (p + tkN ls (left l p)) ∧ w.grownBy w' (some r) := by
  have HN := Lib.hid hn
  have HS := Lib.hid hS
  have hc : HC w B g ls := hL w (fun _ _ _ => rfl)
  have HLL := Lib.hid hL
  have HLO := Lib.hid hlo
  clear hL hlo
  have HLN := Lib.hid hR.len
  have HPL := Lib.hid (pN_left l hR.len p)
  have HFL := Lib.hid (fld_left l (p := p) (by rw [hR.len]; exact hR.le) (q15 (left l p)))
  have hq15 : q15 (left l p) ≤ 15 := by unfold q15; omega
  have HQM : RowKit.Hid (q15 (left l p) ≤ (left l p).length ∧ p + q15 (left l p) ≤ 8 * n) := Lib.hid ⟨by unfold q15; omega, by have h := left_length l p; rw [hR.len] at h; have := hR.le; unfold q15; omega⟩
  have HBin := Lib.hid (bin_left l p)
  have HQD : RowKit.Hid (q15 (left l p) = q15 (left l p)) := Lib.hid rfl
  obtain ⟨M, HM⟩ : ∃ M, RowKit.Hid (left l p = M) := ⟨_, Lib.hid rfl⟩
  rw [HM.out] at HPL HFL hq15 HQM HBin ⊢
  have HR := Lib.hid hR
  have HCC := Lib.hid hc
  have HBS : RowKit.Hid (B ≤ w.heap.size) := Lib.hid hBr
  clear hn hS hBr hR hc HQD
  obtain ⟨q, HQ⟩ : ∃ q, RowKit.Hid (q15 M = q) := ⟨_, Lib.hid rfl⟩
  rw [HQ.out] at HPL HFL hq15 HQM
  have HT : RowKit.Hid (∀ j, j ≤ q → turn 0 (numB M % 2 ^ q) j = hiB (M.take j)) := Lib.hid (fun j hj => turn_hi HBin.out q HQM.out.1 hj)
  go_enter Tryd.func104, Tryd.ntmps104
  go_wp2_with fail
  refine (rpeek_any r 15 w HR.out HN.out).mono ?_
  rintro e w1 ⟨rfl, m1, hw1⟩
  have hg1 : w.grownBy w1 none := by rw [hw1]; exact grown_drewN _ _
  have HR1 := Lib.hid (HR.out.still hg1)
  have HC1 := Lib.hid (HCC.out.grown HBS.out hg1 (fun _ h => by cases h))
  have HG1 := Lib.hid hg1
  clear hg1 hw1 HR HCC
  rw [HPL.out, HFL.out]
  obtain ⟨x, HX⟩ : ∃ x, RowKit.Hid (numB M % 2 ^ q = x) := ⟨_, Lib.hid rfl⟩
  have hx : x < 4294967296 := by
    rw [← HX.out]
    refine Nat.lt_of_lt_of_le (Nat.mod_lt _ (Nat.two_pow_pos q)) ?_
    exact Nat.le_trans (Nat.pow_le_pow_right (by decide) hq15) (by decide)
  have HXB := Lib.hid hx
  rw [HX.out] at HT ⊢
  clear hx HX HPL HFL
  go_wp2_with fail
  go_loopw [6, 8, 9, 10] (fun a b s i wr => ∃ j : Nat, j ≤ q ∧ a = .int .u32 ((x / 2 ^ j : Nat) : Int) ∧ b = .int .i64 ((turn 0 x j : Nat) : Int) ∧ s = .int .i64 ((st (cnt ls) (j + 1) : Nat) : Int) ∧ i = .int .i64 ((j : Int) + 1) ∧ missTo ls M (j + 1) ∧ wr = w1) (fun _ _ _ i _ => q + 1 - (intOf i).toNat)
  case atStart => exact ⟨0, by omega, by simp, rfl, rfl, rfl, fun k hk => by left; omega, rfl⟩
  case round =>
    obtain ⟨j, hj, rfl, rfl, rfl, rfl, hmiss, rfl⟩ := hrel
    have HMI := Lib.hid hmiss
    clear hmiss
    obtain ⟨Al, cl, Ac, cc, As, cs, sg, h1, _, _, h4, h5⟩ := HC1.out.mem
    have HMEM := Lib.hid (And.intro h1 (And.intro h4 h5))
    clear h1 h4 h5
    by_cases hjq : j < q
    · have hd : decide ((j : Int) + 1 ≤ (q : Int)) = true := decide_eq_true (by omega)
      have hT : turn 0 x j < 2147483648 := Nat.lt_of_lt_of_le (turn_lt x j) (by
        have := Nat.pow_le_pow_right (show 0 < 2 by decide) (show j ≤ 31 by omega)
        omega)
      have HTS : RowKit.Hid (turn 0 x (j + 1) = 2 * turn 0 x j + x / 2 ^ j % 2) := Lib.hid (turn_snoc 0 x j)
      have HD : RowKit.Hid (x / 2 ^ (j + 1) = x / 2 ^ j / 2) := Lib.hid (by rw [Nat.pow_succ, Nat.div_div_eq_div_mul])
      have hX : x / 2 ^ j < 4294967296 := Nat.lt_of_le_of_lt (Nat.div_le_self _ _) HXB.out
      have HTJ := Lib.hid (HT.out (j + 1) (by omega))
      generalize turn 0 x j = T at hT HTS ⊢
      generalize x / 2 ^ j = X at hX HTS HD ⊢
      have e1 := odd32 X hX
      have e2 := or64i T X hT
      have c1 := HMEM.out.1.cell (19 + (j + 1))
      rw [hcells_f _ _ _ _ _ (by omega)] at c1
      have c2 := HMEM.out.1.cell (3 + (j + 1))
      rw [hcells_c _ _ _ _ _ (by omega)] at c2
      have hlow := miss_low HBin.out HMI.out (show j + 1 ≤ M.length by have := HQM.out.1; omega)
      rw [← HTJ.out, HTS.out] at hlow
      have hT2 : 2 * T + X % 2 < 4294967297 := by omega
      obtain ⟨T', hT'⟩ : ∃ T', 2 * T + X % 2 = T' := ⟨_, rfl⟩
      rw [hT'] at e2 hlow hT2 HTS
      obtain ⟨F, HF⟩ : ∃ F, RowKit.Hid (fst (cnt ls) (j + 1) = F) := ⟨_, Lib.hid rfl⟩
      rw [HF.out] at c1 hlow
      obtain ⟨C, HCN⟩ : ∃ C, RowKit.Hid (cnt ls (j + 1) = C) := ⟨_, Lib.hid rfl⟩
      rw [HCN.out] at c2
      obtain ⟨P, hP⟩ : ∃ P, T' - F = P := ⟨_, rfl⟩
      have hPi : (T' : Int) - (F : Int) = (P : Int) := by omega
      have hP2 : P ≤ 4294967297 := by omega
      have hCB : C ≤ 320 := by rw [← HCN.out]; exact Nat.le_trans (cnt_le _ _) HC1.out.len
      have hSB := st_bound (c := cnt ls) (fun k => Nat.le_trans (cnt_le _ _) (Nat.le_trans HC1.out.len (by decide))) (j + 1)
      have HST : RowKit.Hid (st (cnt ls) (j + 1 + 1) = st (cnt ls) (j + 1) + cnt ls (j + 1)) := Lib.hid (st_succ _ (by omega))
      have hj15 : j < 15 := by omega
      have hSB2 : st (cnt ls) (j + 1) ≤ 16000 := by omega
      have HHI : RowKit.Hid (hiB (M.take (j + 1)) = T') := Lib.hid (by rw [← HTJ.out, HTS.out])
      by_cases hPC : P < C
      · have hd2 : decide ((P : Int) < (C : Int)) = true := decide_eq_true (by omega)
        obtain ⟨s, hs1, hs2, hs3⟩ := hit_at HBin.out (show 1 ≤ j + 1 by omega) HMI.out (show j + 1 ≤ M.length by have := HQM.out.1; omega) (by rw [HHI.out, HF.out, HCN.out]; omega)
        rw [HHI.out, HF.out, hP] at hs3
        have HO := Lib.hid (tkO_hit HBin.out hs1)
        have HS2 := Lib.hid hs2
        have hpos := pos_lt HC1.out.low hs1.1
        have HS1 := Lib.hid hs1
        generalize st (cnt ls) (j + 1) = SS at hs3 HST hSB hSB2 ⊢
        obtain ⟨U, hU⟩ : ∃ U, SS + P = U := ⟨_, rfl⟩
        have hpi : (SS : Int) + (P : Int) = (U : Int) := by omega
        rw [hU] at hs3
        have HS3 := Lib.hid hs3
        have HBE : RowKit.Hid (bE n p ((j : Int) + 1) = 0) := Lib.hid (b_ok (by omega) (by have := HQM.out.2; omega))
        have HBP : RowKit.Hid (bP n p ((j : Int) + 1) = p + (j + 1)) := Lib.hid (by unfold bP; rw [HBE.out, if_pos rfl]; omega)
        have hlen := HC1.out.len
        have htot := st_total ls HC1.out.low
        rw [hs3] at hpos
        clear hs1 hs2 hs3 hlow hSB hT hU
        go_wp2_with fail
        refine (rbits_any r ((j : Int) + 1) wr HR1.out HS.out HN.out).mono ?_
        rintro e w2 ⟨rfl, hR2, hg2⟩
        rw [HBE.out, show errV 0 = .nilIface from rfl]
        rw [HBP.out] at hR2
        have hc2 : HC w2 B g ls := HLL.out w2 (fun k h1 h2 => (hg2.block k (by have := HG1.out.size; have := HBS.out; omega) (fun e => by injection e with e; have := HLO.out; omega)).trans (HG1.out.block k (by have := HBS.out; omega) (by simp)))
        obtain ⟨Al2, cl2, Ac2, cc2, As2, cs2, sg2, k1, _, _, k4, k5⟩ := hc2.mem
        have c3 := k1.cell 2
        rw [hcells_2] at c3
        obtain ⟨b2, o2, rfl, hb2, e3⟩ := k4.ia (pos_lt hc2.low HS1.out.1)
        rw [k5 s (lenAt_lt HS1.out.1) HS1.out.1, HS3.out] at e3
        clear k1 k4 k5 hb2 hc2
        have HF2 : RowKit.Hid (RA w2 S r A n c l (p + tkN ls M) ∧ w.grownBy w2 (some r)) := Lib.hid ⟨by
            have : tkN ls M = j + 1 := by unfold tkN; rw [HO.out]; exact HS2.out
            rw [this]; exact hR2, (grown_any HG1.out _).trans hg2⟩
        have HV : RowKit.Hid (tkS ls M = s ∧ tkE ls M = 0) := Lib.hid (by unfold tkS tkE; rw [HO.out]; exact ⟨rfl, rfl⟩)
        generalize bX (numL l) n p ((j : Int) + 1) = xx
        generalize st (cnt ls) 16 = mm at hpos c3 htot
        clear hR2 hg2 HMEM HO HS1 HS3 c1 c2 e1 e2 hPi HR1 HC1 HLL
        go_wp2_with fail
        go_ret2
        exact ⟨by rw [HV.out.1, HV.out.2]; rfl, HF2.out⟩
      · have hd2 : decide ((P : Int) < (C : Int)) = false := decide_eq_false (by omega)
        have HM2 : RowKit.Hid (missTo ls M (j + 1 + 1)) := Lib.hid (fun k hk => by
          rcases Nat.lt_or_ge k (j + 1) with h | h
          · exact HMI.out k h
          · obtain rfl : k = j + 1 := by omega
            right
            rw [HHI.out, HF.out, HCN.out]; omega)
        rw [HCN.out] at HST
        generalize st (cnt ls) (j + 1) = SS at HST hSB hSB2 ⊢
        clear HMEM hlow hSB hT
        go_wp2_with fail
        go_roundw
        case rel => exact ⟨j + 1, by omega, by rw [HD.out]; simp, by rw [HTS.out], by rw [HST.out]; simp, by simp, HM2.out, trivial⟩
        case measure => simp [intOf]; omega
    · obtain rfl : j = q := by omega
      have hd : decide ((j : Int) + 1 ≤ (j : Int)) = false := decide_eq_false (by omega)
      have HTJ := HT.out j (Nat.le_refl _)
      have HO := Lib.hid (tkO_miss HC1.out.low (m := M) (by rw [HQ.out]; exact HMI.out))
      have c1 : wr.cell? ⟨g, 35, none⟩ = _ := HMEM.out.1.cell (19 + 16)
      rw [hcells_f _ _ _ _ _ (by decide)] at c1
      have hF16 := fst_le HC1.out.ok (show 16 ≤ 16 by decide)
      have HTP : RowKit.Hid (tailP ls M ↔ turn 0 x j * 2 ^ (16 - j) < fst (cnt ls) 16) := Lib.hid (by unfold tailP; rw [HQ.out, HTJ])
      have hTb := turn_lt x j
      have hZb : turn 0 x j * 2 ^ (16 - j) < 65536 := by
        have h1 := Nat.mul_lt_mul_of_pos_right hTb (Nat.two_pow_pos (16 - j))
        rw [← Nat.pow_add, show j + (16 - j) = 16 by omega] at h1
        exact h1
      have HRF : RowKit.Hid (RA wr S r A n c l (p + tkN ls M) ∧ w.grownBy wr (some r)) := Lib.hid ⟨by
          have : tkN ls M = 0 := by unfold tkN; rw [HO.out]
          rw [this]; exact HR1.out, grown_any HG1.out _⟩
      have HRF2 : RowKit.Hid (RA wr.drew S r A n c l (p + tkN ls M) ∧ w.grownBy wr.drew (some r)) := Lib.hid ⟨HRF.out.1.still (grown_drew (World.grownBy.refl _ _)), grown_drew HRF.out.2⟩
      generalize fst (cnt ls) 16 = F at c1 hF16 HTP
      generalize turn 0 x j = T at hTb hZb HTP ⊢
      have hF17 : F ≤ 65536 := hF16
      obtain ⟨d, hdd⟩ : ∃ d, 16 - j = d := ⟨_, rfl⟩
      have hdi : (16 : Int) - (j : Int) = (d : Int) := by omega
      have hd16 : d ≤ 16 := by omega
      rw [hdd] at hZb HTP
      obtain ⟨Z, hZ⟩ : ∃ Z, T * 2 ^ d = Z := ⟨_, rfl⟩
      have hZi : (T : Int) * 2 ^ d = (Z : Int) := by rw [← hZ]; simp
      rw [hZ] at hZb HTP
      have HV : RowKit.Hid (tkS ls M = 0) := Lib.hid (by unfold tkS; rw [HO.out]; rfl)
      clear hTb hF16 hdd hZ HMEM
      by_cases hlt : Z < F
      · have d1 : decide ((Z : Int) < (F : Int)) = true := decide_eq_true (by omega)
        have HE : RowKit.Hid (tkE ls M = 10) := Lib.hid (by unfold tkE; rw [HO.out]; exact if_pos (HTP.out.2 hlt))
        go_wp2_with fail
        go_region
        go_wp2_with fail
        go_ret2
        exact ⟨by rw [HV.out, HE.out]; rfl, HRF2.out⟩
      · have d1 : decide ((Z : Int) < (F : Int)) = false := decide_eq_false (by omega)
        have HE : RowKit.Hid (tkE ls M = 2) := Lib.hid (by unfold tkE; rw [HO.out]; exact if_neg (fun h => hlt (HTP.out.1 h)))
        go_wp2_with fail
        go_region
        go_wp2_with fail
        go_ret2
        exact ⟨by rw [HV.out, HE.out]; rfl, HRF2.out⟩
end Go.Proofs.YtpnnlhegncbfaaaDoor
namespace Go.Proofs.YtpnnlhegncbfaaaDoor
set_option maxRecDepth 20000

theorem hit_15 {ls : List Nat} (hl : Low ls) (M : List UInt8) (s : Nat) : hitP ls (M.take 15) s ↔ hitP ls M s := by
  have h15 := lenAt_low hl s
  unfold hitP
  rw [List.length_take, List.take_take, Nat.min_eq_left h15]
  exact ⟨fun ⟨h1, h2, h3⟩ => ⟨h1, by omega, h3⟩, fun ⟨h1, h2, h3⟩ => ⟨h1, by omega, h3⟩⟩
theorem tkO_15 {ls : List Nat} (hl : Low ls) (M : List UInt8) : tkO ls (M.take 15) = tkO ls M := by
  unfold tkO
  congr 1
  funext s
  simp only [hit_15 hl M s]
theorem q15_take (M : List UInt8) : q15 (M.take 15) = q15 M := by unfold q15; rw [List.length_take]; omega
theorem tail_15 (ls : List Nat) (M : List UInt8) : tailP ls (M.take 15) ↔ tailP ls M := by
  unfold tailP
  have hq : q15 M ≤ 15 := by unfold q15; omega
  rw [q15_take, List.take_take, Nat.min_eq_left hq]
theorem tkS_15 {ls : List Nat} (hl : Low ls) (M : List UInt8) : tkS ls (M.take 15) = tkS ls M := by unfold tkS; rw [tkO_15 hl]
theorem tkN_15 {ls : List Nat} (hl : Low ls) (M : List UInt8) : tkN ls (M.take 15) = tkN ls M := by unfold tkN; rw [tkO_15 hl]
theorem tkE_15 {ls : List Nat} (hl : Low ls) (M : List UInt8) : tkE ls (M.take 15) = tkE ls M := by
  unfold tkE
  rw [tkO_15 hl]
  cases tkO ls M with
  | some s => rfl
  | none =>
    by_cases h : tailP ls M
    · rw [if_pos h, if_pos ((tail_15 ls M).2 h)]
    · rw [if_neg h, if_neg (fun h' => h ((tail_15 ls M).1 h'))]
/-- A sign that is taken is one of the code's, and has a code. -/
theorem tkS_lt {ls : List Nat} {M : List UInt8} (h : tkE ls M = 0) : tkS ls M < ls.length ∧ lenAt ls (tkS ls M) ≠ 0 ∧ tkN ls M = lenAt ls (tkS ls M) := by
  obtain ⟨s, hO, hs⟩ := tk_ok h
  have e : tkS ls M = s := by unfold tkS; rw [hO]; rfl
  rw [e]
  exact ⟨lenAt_lt hs.1, hs.1, by unfold tkN; rw [hO]⟩
/-- The fixed codes are right. -/
theorem fix_right : right fixA false = true ∧ right fixB true = true := by decide +kernel
end Go.Proofs.YtpnnlhegncbfaaaDoor
namespace Go.Proofs.YtpnnlhegncbfaaaDoor
set_option maxRecDepth 20000

theorem newE_right {L : List Int} (lone : Bool) (h1 : L.length ≤ 320) (h2 : rng L) : newE L lone = 0 ↔ right (nats L) lone = true := by
  unfold newE right
  rw [if_neg (by omega), if_neg (not_not_intro h2), decide_eq_true_iff]
  by_cases h3 : okF (cnt (nats L))
  · rw [if_neg (not_not_intro h3)]
    by_cases h4 : fst (cnt (nats L)) 16 = 65536 ∨ (lone = true ∧ loneF (cnt (nats L)))
    · rw [if_pos h4]; exact ⟨fun _ => ⟨h3, h4⟩, fun _ => rfl⟩
    · rw [if_neg h4]; exact ⟨fun h => by omega, fun h => absurd h.2 h4⟩
  · rw [if_pos h3]; exact ⟨fun h => by omega, fun h => absurd h.1 h3⟩
end Go.Proofs.YtpnnlhegncbfaaaDoor
