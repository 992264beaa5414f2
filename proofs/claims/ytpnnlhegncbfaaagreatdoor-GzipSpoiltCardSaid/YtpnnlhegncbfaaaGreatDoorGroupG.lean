
/- Contract of Take. -/

/- Contracts of Fixed, of the reference's Fixed, and of crossdocknum's Ints. -/

/- Packed bytes, as the document has them, as plain functions on a list of bits; what is read is a beginning of the bits, what is there a beginning of the text. No program is named here: made ahead of the layer that will need it. -/
import Derived.Test.YtpnnlhegncbfaaaGreatDoorGroupF
import Derived.Test.YtpnnlhegncbfaaaGreatDoorGroupB
import Derived.Test.YtpnnlhegncbfaaaGreatDoorGroupC
namespace Go.Proofs.YtpnnlhegncbfaaaGreatDoor
set_option maxRecDepth 20000
open Go.RowKit

theorem ofInt_i64I (a : Nat) (ha : a < 9223372036854775808) : (BitVec.ofInt 64 (a : Int)).toNat = a := by
  rw [BitVec.ofInt_natCast, BitVec.toNat_ofNat]; exact Nat.mod_eq_of_lt (by omega)
theorem i64_or_nat (a b : Nat) (ha : a < 4611686018427387904) (hb : b < 4611686018427387904) : bits .or .i64 (a : Int) (b : Int) = ((a ||| b : Nat) : Int) := by
  have hx : a ||| b < 2 ^ 62 := Nat.or_lt_two_pow (by omega) (by omega)
  show IntKind.i64.wrap ((BitVec.ofInt 64 (a : Int) ||| BitVec.ofInt 64 (b : Int)).toNat : Int) = _
  rw [BitVec.toNat_or, ofInt_i64I a (by omega), ofInt_i64I b (by omega)]
  simp [IntKind.wrap, IntKind.bits, IntKind.signed]
  omega
theorem or64i (t x : Nat) (ht : t < 2147483648) : bits .or .i64 ((t : Int) * 2) ((x : Int) % 2) = ((2 * t + x % 2 : Nat) : Int) := by
  have h1 : (t : Int) * 2 = ((2 * t : Nat) : Int) := by omega
  have h2 : (x : Int) % 2 = ((x % 2 : Nat) : Int) := by omega
  rw [h1, h2, i64_or_nat _ _ (by omega) (by omega)]
  have := Nat.two_pow_add_eq_or_of_lt (i := 1) (b := x % 2) (by omega) t
  simp at this
  rw [← this]
theorem numB_from {l : List UInt8} (h : Bin l) {p : Nat} (hp : p ≤ l.length) : numB (l.drop p) = numB l / 2 ^ p := by
  have h1 := numB_part h p (l.length - p) (by omega)
  rw [List.take_of_length_le (by rw [List.length_drop]; exact Nat.le_refl _)] at h1
  rw [h1]
  apply Nat.mod_eq_of_lt
  rw [Nat.div_lt_iff_lt_mul (Nat.two_pow_pos _), ← Nat.pow_add, show l.length - p + p = l.length by omega]
  exact numB_lt h
/-- The bits from the bit p on. -/
def left (l : List UInt8) (p : Nat) : List UInt8 := (bitsL l).drop p
theorem bin_left (l : List UInt8) (p : Nat) : Bin (left l p) := (bin_bitsL l).drop p
theorem left_length (l : List UInt8) (p : Nat) : (left l p).length = 8 * l.length - p := by unfold left; rw [List.length_drop, bitsL_length]
theorem pN_left (l : List UInt8) {n : Nat} (hl : l.length = n) (p : Nat) : pN n p 15 = q15 (left l p) := by
  unfold pN q15; rw [left_length, hl, if_neg (by omega)]; rfl
theorem fld_left (l : List UInt8) {p : Nat} (hp : p ≤ 8 * l.length) (q : Nat) : fld (numL l) p q = numB (left l p) % 2 ^ q := by
  unfold fld left
  rw [numB_from (bin_bitsL l) (by rw [bitsL_length]; exact hp), numB_bitsL]

set_option maxHeartbeats 2000000 in
theorem take_any {S : List Nat} {A : Option Addr} {n c : Nat} {l : List UInt8} {p : Nat} (B g r : Nat) (ls : List Nat) (w : World) (lo : Nat) (hL : HL w lo B g ls) (hlo : r < lo) (hR : RA w S r A n c l p) (hS : r ∈ S) (hBr : B ≤ w.heap.size) (hn : n ≤ 1000000) :
    Calls Tryz.prog 125 #[.pointer (some ⟨g, 0, none⟩), .pointer (some ⟨r, 0, none⟩)] w fun e w' => e = .returned (.tuple #[.int .i64 (tkS ls (left l p) : Int), errV (tkE ls (left l p))]) ∧ RA w' S r A n c l (p + tkN ls (left l p)) ∧ w.grownBy w' (some r) := by
  have HN := Lib.hid hn
  have HS := Lib.hid hS
  have hc : HC w B g ls := hL w (fun _ _ _ => rfl)
  have HLL := Lib.hid hL
  have HLO := Lib.hid hlo
  clear hL hlo
  have HLN := Lib.hid hR.len
  have HPL := Lib.hid (pN_left l hR.len p)
  have HFL := Lib.hid (fld_left l (p := p) (by rw [hR.len]; exact hR.le) (q15 (left l p)))
  have hq15 : q15 (left l p) ≤ 15 := by unfold q15; omega
  have HQM : RowKit.Hid (q15 (left l p) ≤ (left l p).length ∧ p + q15 (left l p) ≤ 8 * n) := Lib.hid ⟨by unfold q15; omega, by have h := left_length l p; rw [hR.len] at h; have := hR.le; unfold q15; omega⟩
  have HBin := Lib.hid (bin_left l p)
  have HQD : RowKit.Hid (q15 (left l p) = q15 (left l p)) := Lib.hid rfl
  obtain ⟨M, HM⟩ : ∃ M, RowKit.Hid (left l p = M) := ⟨_, Lib.hid rfl⟩
  rw [HM.out] at HPL HFL hq15 HQM HBin ⊢
  have HR := Lib.hid hR
  have HCC := Lib.hid hc
  have HBS : RowKit.Hid (B ≤ w.heap.size) := Lib.hid hBr
  clear hn hS hBr hR hc HQD
  obtain ⟨q, HQ⟩ : ∃ q, RowKit.Hid (q15 M = q) := ⟨_, Lib.hid rfl⟩
  rw [HQ.out] at HPL HFL hq15 HQM
  have HT : RowKit.Hid (∀ j, j ≤ q → turn 0 (numB M % 2 ^ q) j = hiB (M.take j)) := Lib.hid (fun j hj => turn_hi HBin.out q HQM.out.1 hj)
  go_enter Tryz.func125, Tryz.ntmps125
  go_wp2_with fail
  refine (rpeek_any r 15 w HR.out HN.out).mono ?_
  rintro e w1 ⟨rfl, m1, hw1⟩
  have hg1 : w.grownBy w1 none := by rw [hw1]; exact grown_drewN _ _
  have HR1 := Lib.hid (HR.out.still hg1)
  have HC1 := Lib.hid (HCC.out.grown HBS.out hg1 (fun _ h => by cases h))
  have HG1 := Lib.hid hg1
  clear hg1 hw1 HR HCC
  rw [HPL.out, HFL.out]
  obtain ⟨x, HX⟩ : ∃ x, RowKit.Hid (numB M % 2 ^ q = x) := ⟨_, Lib.hid rfl⟩
  have hx : x < 4294967296 := by
    rw [← HX.out]
    refine Nat.lt_of_lt_of_le (Nat.mod_lt _ (Nat.two_pow_pos q)) ?_
    exact Nat.le_trans (Nat.pow_le_pow_right (by decide) hq15) (by decide)
  have HXB := Lib.hid hx
  rw [HX.out] at HT ⊢
  clear hx HX HPL HFL
  go_wp2_with fail
  go_loopw [6, 8, 9, 10] (fun a b s i wr => ∃ j : Nat, j ≤ q ∧ a = .int .u32 ((x / 2 ^ j : Nat) : Int) ∧ b = .int .i64 ((turn 0 x j : Nat) : Int) ∧ s = .int .i64 ((st (cnt ls) (j + 1) : Nat) : Int) ∧ i = .int .i64 ((j : Int) + 1) ∧ missTo ls M (j + 1) ∧ wr = w1) (fun _ _ _ i _ => q + 1 - (intOf i).toNat)
  case atStart => exact ⟨0, by omega, by simp, rfl, rfl, rfl, fun k hk => by left; omega, rfl⟩
  case round =>
    obtain ⟨j, hj, rfl, rfl, rfl, rfl, hmiss, rfl⟩ := hrel
    have HMI := Lib.hid hmiss
    clear hmiss
    obtain ⟨Al, cl, Ac, cc, As, cs, sg, h1, _, _, h4, h5⟩ := HC1.out.mem
    have HMEM := Lib.hid (And.intro h1 (And.intro h4 h5))
    clear h1 h4 h5
    by_cases hjq : j < q
    · have hd : decide ((j : Int) + 1 ≤ (q : Int)) = true := decide_eq_true (by omega)
      have hT : turn 0 x j < 2147483648 := Nat.lt_of_lt_of_le (turn_lt x j) (by
        have := Nat.pow_le_pow_right (show 0 < 2 by decide) (show j ≤ 31 by omega)
        omega)
      have HTS : RowKit.Hid (turn 0 x (j + 1) = 2 * turn 0 x j + x / 2 ^ j % 2) := Lib.hid (turn_snoc 0 x j)
      have HD : RowKit.Hid (x / 2 ^ (j + 1) = x / 2 ^ j / 2) := Lib.hid (by rw [Nat.pow_succ, Nat.div_div_eq_div_mul])
      have hX : x / 2 ^ j < 4294967296 := Nat.lt_of_le_of_lt (Nat.div_le_self _ _) HXB.out
      have HTJ := Lib.hid (HT.out (j + 1) (by omega))
      generalize turn 0 x j = T at hT HTS ⊢
      generalize x / 2 ^ j = X at hX HTS HD ⊢
      have e1 := odd32 X hX
      have e2 := or64i T X hT
      have c1 := HMEM.out.1.cell (19 + (j + 1))
      rw [hcells_f _ _ _ _ _ (by omega)] at c1
      have c2 := HMEM.out.1.cell (3 + (j + 1))
      rw [hcells_c _ _ _ _ _ (by omega)] at c2
      have hlow := miss_low HBin.out HMI.out (show j + 1 ≤ M.length by have := HQM.out.1; omega)
      rw [← HTJ.out, HTS.out] at hlow
      have hT2 : 2 * T + X % 2 < 4294967297 := by omega
      obtain ⟨T', hT'⟩ : ∃ T', 2 * T + X % 2 = T' := ⟨_, rfl⟩
      rw [hT'] at e2 hlow hT2 HTS
      obtain ⟨F, HF⟩ : ∃ F, RowKit.Hid (fst (cnt ls) (j + 1) = F) := ⟨_, Lib.hid rfl⟩
      rw [HF.out] at c1 hlow
      obtain ⟨C, HCN⟩ : ∃ C, RowKit.Hid (cnt ls (j + 1) = C) := ⟨_, Lib.hid rfl⟩
      rw [HCN.out] at c2
      obtain ⟨P, hP⟩ : ∃ P, T' - F = P := ⟨_, rfl⟩
      have hPi : (T' : Int) - (F : Int) = (P : Int) := by omega
      have hP2 : P ≤ 4294967297 := by omega
      have hCB : C ≤ 320 := by rw [← HCN.out]; exact Nat.le_trans (cnt_le _ _) HC1.out.len
      have hSB := st_bound (c := cnt ls) (fun k => Nat.le_trans (cnt_le _ _) (Nat.le_trans HC1.out.len (by decide))) (j + 1)
      have HST : RowKit.Hid (st (cnt ls) (j + 1 + 1) = st (cnt ls) (j + 1) + cnt ls (j + 1)) := Lib.hid (st_succ _ (by omega))
      have hj15 : j < 15 := by omega
      have hSB2 : st (cnt ls) (j + 1) ≤ 16000 := by omega
      have HHI : RowKit.Hid (hiB (M.take (j + 1)) = T') := Lib.hid (by rw [← HTJ.out, HTS.out])
      by_cases hPC : P < C
      · have hd2 : decide ((P : Int) < (C : Int)) = true := decide_eq_true (by omega)
        obtain ⟨s, hs1, hs2, hs3⟩ := hit_at HBin.out (show 1 ≤ j + 1 by omega) HMI.out (show j + 1 ≤ M.length by have := HQM.out.1; omega) (by rw [HHI.out, HF.out, HCN.out]; omega)
        rw [HHI.out, HF.out, hP] at hs3
        have HO := Lib.hid (tkO_hit HBin.out hs1)
        have HS2 := Lib.hid hs2
        have hpos := pos_lt HC1.out.low hs1.1
        have HS1 := Lib.hid hs1
        generalize st (cnt ls) (j + 1) = SS at hs3 HST hSB hSB2 ⊢
        obtain ⟨U, hU⟩ : ∃ U, SS + P = U := ⟨_, rfl⟩
        have hpi : (SS : Int) + (P : Int) = (U : Int) := by omega
        rw [hU] at hs3
        have HS3 := Lib.hid hs3
        have HBE : RowKit.Hid (bE n p ((j : Int) + 1) = 0) := Lib.hid (b_ok (by omega) (by have := HQM.out.2; omega))
        have HBP : RowKit.Hid (bP n p ((j : Int) + 1) = p + (j + 1)) := Lib.hid (by unfold bP; rw [HBE.out, if_pos rfl]; omega)
        have hlen := HC1.out.len
        have htot := st_total ls HC1.out.low
        rw [hs3] at hpos
        clear hs1 hs2 hs3 hlow hSB hT hU
        go_wp2_with fail
        refine (rbits_any r ((j : Int) + 1) wr HR1.out HS.out HN.out).mono ?_
        rintro e w2 ⟨rfl, hR2, hg2⟩
        rw [HBE.out, show errV 0 = .nilIface from rfl]
        rw [HBP.out] at hR2
        have hc2 : HC w2 B g ls := HLL.out w2 (fun k h1 h2 => (hg2.block k (by have := HG1.out.size; have := HBS.out; omega) (fun e => by injection e with e; have := HLO.out; omega)).trans (HG1.out.block k (by have := HBS.out; omega) (by simp)))
        obtain ⟨Al2, cl2, Ac2, cc2, As2, cs2, sg2, k1, _, _, k4, k5⟩ := hc2.mem
        have c3 := k1.cell 2
        rw [hcells_2] at c3
        obtain ⟨b2, o2, rfl, hb2, e3⟩ := k4.ia (pos_lt hc2.low HS1.out.1)
        rw [k5 s (lenAt_lt HS1.out.1) HS1.out.1, HS3.out] at e3
        clear k1 k4 k5 hb2 hc2
        have HF2 : RowKit.Hid (RA w2 S r A n c l (p + tkN ls M) ∧ w.grownBy w2 (some r)) := Lib.hid ⟨by
            have : tkN ls M = j + 1 := by unfold tkN; rw [HO.out]; exact HS2.out
            rw [this]; exact hR2, (grown_any HG1.out _).trans hg2⟩
        have HV : RowKit.Hid (tkS ls M = s ∧ tkE ls M = 0) := Lib.hid (by unfold tkS tkE; rw [HO.out]; exact ⟨rfl, rfl⟩)
        generalize bX (numL l) n p ((j : Int) + 1) = xx
        generalize st (cnt ls) 16 = mm at hpos c3 htot
        clear hR2 hg2 HMEM HO HS1 HS3 c1 c2 e1 e2 hPi HR1 HC1 HLL
        go_wp2_with fail
        go_ret2
        exact ⟨by rw [HV.out.1, HV.out.2]; rfl, HF2.out⟩
      · have hd2 : decide ((P : Int) < (C : Int)) = false := decide_eq_false (by omega)
        have HM2 : RowKit.Hid (missTo ls M (j + 1 + 1)) := Lib.hid (fun k hk => by
          rcases Nat.lt_or_ge k (j + 1) with h | h
          · exact HMI.out k h
          · obtain rfl : k = j + 1 := by omega
            right
            rw [HHI.out, HF.out, HCN.out]; omega)
        rw [HCN.out] at HST
        generalize st (cnt ls) (j + 1) = SS at HST hSB hSB2 ⊢
        clear HMEM hlow hSB hT
        go_wp2_with fail
        go_roundw
        case rel => exact ⟨j + 1, by omega, by rw [HD.out]; simp, by rw [HTS.out], by rw [HST.out]; simp, by simp, HM2.out, trivial⟩
        case measure => simp [intOf]; omega
    · obtain rfl : j = q := by omega
      have hd : decide ((j : Int) + 1 ≤ (j : Int)) = false := decide_eq_false (by omega)
      have HTJ := HT.out j (Nat.le_refl _)
      have HO := Lib.hid (tkO_miss HC1.out.low (m := M) (by rw [HQ.out]; exact HMI.out))
      have c1 : wr.cell? ⟨g, 35, none⟩ = _ := HMEM.out.1.cell (19 + 16)
      rw [hcells_f _ _ _ _ _ (by decide)] at c1
      have hF16 := fst_le HC1.out.ok (show 16 ≤ 16 by decide)
      have HTP : RowKit.Hid (tailP ls M ↔ turn 0 x j * 2 ^ (16 - j) < fst (cnt ls) 16) := Lib.hid (by unfold tailP; rw [HQ.out, HTJ])
      have hTb := turn_lt x j
      have hZb : turn 0 x j * 2 ^ (16 - j) < 65536 := by
        have h1 := Nat.mul_lt_mul_of_pos_right hTb (Nat.two_pow_pos (16 - j))
        rw [← Nat.pow_add, show j + (16 - j) = 16 by omega] at h1
        exact h1
      have HRF : RowKit.Hid (RA wr S r A n c l (p + tkN ls M) ∧ w.grownBy wr (some r)) := Lib.hid ⟨by
          have : tkN ls M = 0 := by unfold tkN; rw [HO.out]
          rw [this]; exact HR1.out, grown_any HG1.out _⟩
      have HRF2 : RowKit.Hid (RA wr.drew S r A n c l (p + tkN ls M) ∧ w.grownBy wr.drew (some r)) := Lib.hid ⟨HRF.out.1.still (grown_drew (World.grownBy.refl _ _)), grown_drew HRF.out.2⟩
      generalize fst (cnt ls) 16 = F at c1 hF16 HTP
      generalize turn 0 x j = T at hTb hZb HTP ⊢
      have hF17 : F ≤ 65536 := hF16
      obtain ⟨d, hdd⟩ : ∃ d, 16 - j = d := ⟨_, rfl⟩
      have hdi : (16 : Int) - (j : Int) = (d : Int) := by omega
      have hd16 : d ≤ 16 := by omega
      rw [hdd] at hZb HTP
      obtain ⟨Z, hZ⟩ : ∃ Z, T * 2 ^ d = Z := ⟨_, rfl⟩
      have hZi : (T : Int) * 2 ^ d = (Z : Int) := by rw [← hZ]; simp
      rw [hZ] at hZb HTP
      have HV : RowKit.Hid (tkS ls M = 0) := Lib.hid (by unfold tkS; rw [HO.out]; rfl)
      clear hTb hF16 hdd hZ HMEM
      by_cases hlt : Z < F
      · have d1 : decide ((Z : Int) < (F : Int)) = true := decide_eq_true (by omega)
        have HE : RowKit.Hid (tkE ls M = 10) := Lib.hid (by unfold tkE; rw [HO.out]; exact if_pos (HTP.out.2 hlt))
        go_wp2_with fail
        go_region
        go_wp2_with fail
        go_ret2
        exact ⟨by rw [HV.out, HE.out]; rfl, HRF2.out⟩
      · have d1 : decide ((Z : Int) < (F : Int)) = false := decide_eq_false (by omega)
        have HE : RowKit.Hid (tkE ls M = 2) := Lib.hid (by unfold tkE; rw [HO.out]; exact if_neg (fun h => hlt (HTP.out.1 h)))
        go_wp2_with fail
        go_region
        go_wp2_with fail
        go_ret2
        exact ⟨by rw [HV.out, HE.out]; rfl, HRF2.out⟩
end Go.Proofs.YtpnnlhegncbfaaaGreatDoor
namespace Go.Proofs.YtpnnlhegncbfaaaGreatDoor
set_option maxRecDepth 20000
open Go.RowKit

/-- The fixed length of a letter. -/
def fixL (k : Nat) : Nat := if k < 144 then 8 else if k < 256 then 9 else if k < 280 then 7 else 8
set_option maxHeartbeats 400000 in
set_option maxRecDepth 10000 in
theorem fixed_len (k : Nat) (w : World) : Calls Tryz.prog 74 #[.int .i64 (k : Int)] w fun e w' => e = .returned (.int .i64 (fixL k : Int)) ∧ w' = w := by
  unfold fixL
  by_cases h1 : k < 144
  · have d1 : decide ((k : Int) < 144) = true := decide_eq_true (by omega)
    rw [if_pos h1]
    go_enter Tryz.func74, Tryz.ntmps74
    go_wp2_with fail
    go_ret
    exact ⟨rfl, rfl⟩
  · have d1 : decide ((k : Int) < 144) = false := decide_eq_false (by omega)
    rw [if_neg h1]
    by_cases h2 : k < 256
    · have d2 : decide ((k : Int) < 256) = true := decide_eq_true (by omega)
      rw [if_pos h2]
      go_enter Tryz.func74, Tryz.ntmps74
      go_wp2_with fail
      go_ret
      exact ⟨rfl, rfl⟩
    · have d2 : decide ((k : Int) < 256) = false := decide_eq_false (by omega)
      rw [if_neg h2]
      by_cases h3 : k < 280
      · have d3 : decide ((k : Int) < 280) = true := decide_eq_true (by omega)
        rw [if_pos h3]
        go_enter Tryz.func74, Tryz.ntmps74
        go_wp2_with fail
        go_ret
        exact ⟨rfl, rfl⟩
      · have d3 : decide ((k : Int) < 280) = false := decide_eq_false (by omega)
        rw [if_neg h3]
        go_enter Tryz.func74, Tryz.ntmps74
        go_wp2_with fail
        go_ret
        exact ⟨rfl, rfl⟩

/-- A function up to a place. -/
def upTo (f : Nat → Nat) (k : Nat) : Nat → Nat := fun j => if j < k then f j else 0
theorem upTo_more (f : Nat → Nat) (k : Nat) : upTo f (k + 1) = upd (upTo f k) k (f k) := by
  funext j
  unfold upTo upd
  by_cases h1 : j = k
  · subst h1; simp
  · rw [if_neg h1]
    show _ = if j < k then f j else 0
    by_cases h2 : j < k
    · rw [if_pos h2, if_pos (by omega)]
    · rw [if_neg h2, if_neg (by omega)]
theorem upTo_all (f : Nat → Nat) (n : Nat) : ia (upTo f n) n = ia f n := ia_congr fun i hi => by unfold upTo; rw [if_pos hi]
theorem upTo_zero (f : Nat → Nat) : upTo f 0 = fun _ => 0 := by funext j; unfold upTo; rw [if_neg (by omega)]
/-- What Fixed leaves. -/
def FixM (w : World) (e : Ending) (w' : World) : Prop :=
  ∃ p q, e = .returned (.tuple #[.slice (some ⟨p, 0, none⟩) 288 288, .slice (some ⟨q, 0, none⟩) 30 30]) ∧ Row w' p (ia fixL 288) 3 ∧ Row w' q (ia (fun _ => 5) 30) 3 ∧ Below w.heap.size w w' ∧ w.heap.size ≤ p ∧ w.heap.size ≤ q ∧ p ≠ q

set_option maxHeartbeats 1000000 in
set_option maxRecDepth 10000 in
theorem fixed_any (w : World) : Calls Tryz.prog 59 #[] w (FixM w) := by
  go_enter Tryz.func59, Tryz.ntmps59
  go_wp2_with (with_reducible refine makeI _ rfl _ _ rfl 288 rfl rfl (by omega) ?_)
  intro w1 r1 g1 s1
  have hb := below_make g1
  have hrow : Row w1 w.heap.size (ia (upTo fixL 0) 288) 3 := by rw [upTo_zero]; exact r1
  have HI := Lib.hid (And.intro hrow (And.intro hb s1))
  clear r1 g1 s1 hb hrow
  generalize hG : w.heap.size = G at HI ⊢
  have HG := Lib.hid hG
  clear hG
  go_wp2_with fail
  go_loopw [7] (fun i wr => ∃ k : Nat, k ≤ 288 ∧ i = .int .i64 (k : Int) ∧ Row wr G (ia (upTo fixL k) 288) 3 ∧ Below G w wr ∧ wr.heap.size = G + 1) (fun i _ => 288 - (intOf i).toNat)
  case atStart => exact ⟨0, by omega, rfl, HI.out⟩
  case round =>
    clear HI
    obtain ⟨k, hk, rfl, hrow, hb, hsz⟩ := hrel
    have HI := Lib.hid (And.intro hrow (And.intro hb hsz))
    clear hrow hb hsz
    by_cases hk2 : k < 288
    · have hd : decide ((k : Int) < 288) = true := decide_eq_true (by omega)
      have c1 := HI.out.1.ia hk2
      have c2 := HI.out.1.thawed k
      generalize upTo fixL k k = y at c1
      have HM := Lib.hid (upTo_more fixL k)
      go_wp2_with fail
      refine (fixed_len k wr).mono ?_
      rintro e w2 ⟨rfl, rfl⟩
      generalize fixL k = z at HM ⊢
      go_wp2_with fail
      go_roundw
      case rel => exact ⟨k + 1, by omega, by simp, by rw [HM.out]; exact HI.out.1.iaSet k z _ rfl, HI.out.2.1.grown (grown_setCell _ _ _ _) (by have := HI.out.2.2; omega) (fun j h => by injection h with h; omega), by have := HI.out.2.2; simpa [World.setCell] using this⟩
      case measure => simp [intOf]; omega
    · obtain rfl : k = 288 := by omega
      have hd : decide (((288 : Nat) : Int) < 288) = false := rfl
      have hall := HI.out.1
      rw [upTo_all] at hall
      have HR := Lib.hid hall
      clear hall
      go_wp2_with (with_reducible refine makeI _ rfl _ _ rfl 30 rfl rfl (by omega) ?_)
      intro w1 r1 g1 s1
      have hb : Below G w w1 := HI.out.2.1.grown g1 (by have := HI.out.2.2; omega) (fun _ h => by cases h)
      have hrow : Row w1 (G + 1) (ia (upTo (fun _ => 5) 0) 30) 3 := by rw [upTo_zero, ← HI.out.2.2]; exact r1
      have HJ := Lib.hid (And.intro hrow (And.intro hb (And.intro (HR.out.grown g1 (by simp)) (show G + 2 ≤ w1.heap.size by have := HI.out.2.2; omega))))
      have hsz := HI.out.2.2
      rw [hsz]
      clear r1 g1 s1 hb hrow HR HI hsz
      go_wp2_with fail
      go_loopw [19] (fun i wr => ∃ k : Nat, k ≤ 30 ∧ i = .int .i64 (k : Int) ∧ Row wr (G + 1) (ia (upTo (fun _ => 5) k) 30) 3 ∧ Below G w wr ∧ Row wr G (ia fixL 288) 3 ∧ G + 2 ≤ wr.heap.size) (fun i _ => 30 - (intOf i).toNat)
      case atStart => exact ⟨0, by omega, rfl, HJ.out⟩
      case round =>
        clear HJ
        obtain ⟨k, hk, rfl, hrow, hb, hr, hsz⟩ := hrel
        have HI := Lib.hid (And.intro hrow (And.intro hb (And.intro hr hsz)))
        clear hrow hb hr hsz
        by_cases hk2 : k < 30
        · have hd : decide ((k : Int) < 30) = true := decide_eq_true (by omega)
          have c1 := HI.out.1.ia hk2
          have c2 := HI.out.1.thawed k
          generalize upTo (fun _ => 5) k k = y at c1
          have HM := Lib.hid (upTo_more (fun _ => 5) k)
          go_wp2_with fail
          go_roundw
          case rel => exact ⟨k + 1, by omega, by simp, by rw [HM.out]; exact HI.out.1.iaSet k 5 _ rfl, HI.out.2.1.grown (grown_setCell _ _ _ _) (by have := HI.out.2.2.2; omega) (fun j h => by injection h with h; omega), HI.out.2.2.1.other (by omega) _ _, by have := HI.out.2.2.2; simpa [World.setCell] using this⟩
          case measure => simp [intOf]; omega
        · obtain rfl : k = 30 := by omega
          have hd : decide (((30 : Nat) : Int) < 30) = false := rfl
          have hall := HI.out.1
          rw [upTo_all] at hall
          have HR := Lib.hid hall
          clear hall
          go_wp2_with fail
          go_ret2
          exact ⟨G, G + 1, rfl, HI.out.2.2.1, HR.out, by rw [HG.out]; exact HI.out.2.1, by rw [HG.out]; exact Nat.le_refl _, by rw [HG.out]; exact Nat.le_succ _, by omega⟩
end Go.Proofs.YtpnnlhegncbfaaaGreatDoor
namespace Go.Proofs.YtpnnlhegncbfaaaGreatDoor
set_option maxRecDepth 20000

/-- At which bit, what was put out, how many steps. -/
structure Sx where
  pos : Nat
  out : List UInt8
  steps : Nat
/-- A part of unpacking: of bits, a limit and a state an answer and the state then, or an error's number. -/
def X (α : Type) : Type := List UInt8 → Nat → Sx → Except Nat (α × Sx)
def pureX {α : Type} (a : α) : X α := fun _ _ s => .ok (a, s)
def failX {α : Type} (e : Nat) : X α := fun _ _ _ => .error e
def bindX {α β : Type} (f : X α) (h : α → X β) : X β := fun L lim s => match f L lim s with
  | .ok (a, s1) => h a L lim s1
  | .error e => .error e
/-- The bits of whole bytes. -/
def Bits (L : List UInt8) : Prop := Bin L ∧ L.length % 8 = 0
/-- What every part keeps: it goes on, within the bits and the limit; k steps more than bits at most, less g; and what is behind its end, and a greater limit, change nothing. -/
structure Good {α : Type} (k g : Nat) (f : X α) : Prop where
  all : ∀ L lim s a s', Bits L → f L lim s = .ok (a, s') → s.pos ≤ L.length → s.out.length ≤ lim →
    s.pos ≤ s'.pos ∧ s'.pos ≤ L.length ∧ s.out.length ≤ s'.out.length ∧ s'.out.length ≤ lim ∧ s'.steps + s.pos + g ≤ s.steps + s'.pos + k ∧
    ∀ L' lim', Bits L' → L'.take s'.pos = L.take s'.pos → s'.out.length ≤ lim' → f L' lim' s = .ok (a, s')
theorem Good.weak {α : Type} {k g k' g' : Nat} {f : X α} (h : Good k g f) (hk : k + g' ≤ k' + g) : Good k' g' f := ⟨fun L lim s a s' hb he h1 h2 => by
  obtain ⟨a1, a2, a3, a4, a5, a6⟩ := h.all L lim s a s' hb he h1 h2
  exact ⟨a1, a2, a3, a4, by omega, a6⟩⟩
theorem good_pure {α : Type} (a : α) : Good 0 0 (pureX a) := ⟨fun L lim s b s' _ he h1 h2 => by
  injection he with he
  injection he with he1 he2
  subst he1 he2
  exact ⟨Nat.le_refl _, h1, Nat.le_refl _, h2, by omega, fun _ _ _ _ _ => rfl⟩⟩
theorem good_fail {α : Type} (e : Nat) : Good 0 0 (failX e : X α) := ⟨fun L lim s b s' _ he _ _ => by cases he⟩
theorem take_less {L L' : List UInt8} {p q : Nat} (h : L'.take q = L.take q) (hp : p ≤ q) : L'.take p = L.take p := by
  have := congrArg (List.take p) h
  rwa [List.take_take, List.take_take, Nat.min_eq_left hp] at this
theorem good_bind {α β : Type} {k g k' g' : Nat} {f : X α} {h : α → X β} (hf : Good k g f) (hh : ∀ a, Good k' g' (h a)) : Good (k + k') (g + g') (bindX f h) := ⟨fun L lim s b s' hb he h1 h2 => by
  unfold bindX at he
  cases hfs : f L lim s with
  | error e => rw [hfs] at he; cases he
  | ok r =>
    obtain ⟨a, s1⟩ := r
    rw [hfs] at he
    obtain ⟨a1, a2, a3, a4, a5, a6⟩ := hf.all L lim s a s1 hb hfs h1 h2
    obtain ⟨b1, b2, b3, b4, b5, b6⟩ := (hh a).all L lim s1 b s' hb he a2 a4
    refine ⟨by omega, b2, by omega, b4, by omega, fun L' lim' hb' hL hl => ?_⟩
    unfold bindX
    rw [a6 L' lim' hb' (take_less hL b1) (by omega)]
    exact b6 L' lim' hb' hL hl⟩

/-- The next n bits as a number. -/
def numX (n : Nat) : X Nat := fun L _ s => if L.length < s.pos + n then .error 10 else .ok (numB ((L.drop s.pos).take n), ⟨s.pos + n, s.out, s.steps⟩)
theorem take_drop_eq {L L' : List UInt8} {p n : Nat} (h : L'.take (p + n) = L.take (p + n)) : (L'.drop p).take n = (L.drop p).take n := by
  have := congrArg (List.drop p) h
  rwa [List.drop_take, List.drop_take, Nat.add_sub_cancel_left] at this
theorem take_len {L L' : List UInt8} {p : Nat} (h : L'.take p = L.take p) (hp : p ≤ L.length) : p ≤ L'.length := by
  have := congrArg List.length h
  rw [List.length_take, List.length_take] at this
  omega
theorem good_num (n : Nat) : Good 0 n (numX n) := ⟨fun L lim s a s' _ he h1 h2 => by
  unfold numX at he
  by_cases hl : L.length < s.pos + n
  · rw [if_pos hl] at he; cases he
  · rw [if_neg hl] at he
    injection he with he
    injection he with he1 he2
    subst he1 he2
    refine ⟨by show s.pos ≤ s.pos + n; omega, by show s.pos + n ≤ _; omega, Nat.le_refl _, h2, by show s.steps + s.pos + n ≤ s.steps + (s.pos + n) + 0; omega, fun L' lim' _ hL hl' => ?_⟩
    have hL : L'.take (s.pos + n) = L.take (s.pos + n) := hL
    unfold numX
    rw [if_neg (by have := take_len hL (by omega); omega), take_drop_eq hL]⟩
/-- The next sign of the code of lengths. -/
def signX (ls : List Nat) : X Nat := fun L _ s => if tkE ls (L.drop s.pos) ≠ 0 then .error (tkE ls (L.drop s.pos)) else .ok (tkS ls (L.drop s.pos), ⟨s.pos + tkN ls (L.drop s.pos), s.out, s.steps⟩)
/-- Bits that are bits. -/
theorem tk_ok {ls : List Nat} {M : List UInt8} (h : tkE ls M = 0) : ∃ s, tkO ls M = some s ∧ hitP ls M s := by
  unfold tkE at h
  cases hO : tkO ls M with
  | none =>
    rw [hO] at h
    simp only at h
    split at h <;> omega
  | some s =>
    refine ⟨s, rfl, ?_⟩
    unfold tkO at hO
    have := List.find?_some hO
    simpa using this
theorem hit_same {ls : List Nat} {M M' : List UInt8} {s : Nat} (h : hitP ls M s) (he : M'.take (lenAt ls s) = M.take (lenAt ls s)) : hitP ls M' s :=
  ⟨h.1, by have := congrArg List.length he; rw [List.length_take, List.length_take, Nat.min_eq_left h.2.1] at this; omega, by rw [he]; exact h.2.2⟩
theorem good_sign (ls : List Nat) : Good 0 1 (signX ls) := ⟨fun L lim s a s' hb he h1 h2 => by
  unfold signX at he
  by_cases hE : tkE ls (L.drop s.pos) ≠ 0
  · rw [if_pos hE] at he; cases he
  · rw [if_neg hE] at he
    obtain ⟨x, hO, hx⟩ := tk_ok (ls := ls) (M := L.drop s.pos) (by omega)
    have hN : tkN ls (L.drop s.pos) = lenAt ls x := by unfold tkN; rw [hO]
    have hS : tkS ls (L.drop s.pos) = x := by unfold tkS; rw [hO]; rfl
    rw [hN, hS] at he
    injection he with he
    injection he with he1 he2
    subst he1 he2
    have hlen := hx.2.1
    rw [List.length_drop] at hlen
    have h0 := hx.1
    refine ⟨by show s.pos ≤ s.pos + _; omega, by show s.pos + lenAt ls x ≤ _; omega, Nat.le_refl _, h2, by show s.steps + s.pos + 1 ≤ s.steps + (s.pos + lenAt ls x) + 0; omega, fun L' lim' hb' hL _ => ?_⟩
    have hL : L'.take (s.pos + lenAt ls x) = L.take (s.pos + lenAt ls x) := hL
    have hx' : hitP ls (L'.drop s.pos) x := hit_same hx (take_drop_eq hL)
    have hO' := tkO_hit (hb'.1.drop s.pos) hx'
    unfold signX
    have e1 : tkE ls (L'.drop s.pos) = 0 := by unfold tkE; rw [hO']
    have e2 : tkN ls (L'.drop s.pos) = lenAt ls x := by unfold tkN; rw [hO']
    have e3 : tkS ls (L'.drop s.pos) = x := by unfold tkS; rw [hO']; rfl
    rw [if_neg (by omega), e2, e3]⟩
def stepX : X Unit := fun _ _ s => .ok ((), ⟨s.pos, s.out, s.steps + 1⟩)
theorem good_step : Good 1 0 stepX := ⟨fun L lim s a s' _ he h1 h2 => by
  injection he with he
  injection he with he1 he2
  subst he2
  exact ⟨Nat.le_refl _, h1, Nat.le_refl _, h2, by show s.steps + 1 + s.pos + 0 ≤ s.steps + s.pos + 1; omega, fun _ _ _ _ _ => rfl⟩⟩
/-- On to the next whole byte. -/
def alignX : X Unit := fun _ _ s => .ok ((), ⟨(s.pos + 7) / 8 * 8, s.out, s.steps⟩)
theorem good_align : Good 0 0 alignX := ⟨fun L lim s a s' hb he h1 h2 => by
  injection he with he
  injection he with he1 he2
  subst he2
  have := hb.2
  exact ⟨by show s.pos ≤ (s.pos + 7) / 8 * 8; omega, by show (s.pos + 7) / 8 * 8 ≤ L.length; omega, Nat.le_refl _, h2, by show s.steps + s.pos + 0 ≤ s.steps + (s.pos + 7) / 8 * 8 + 0; omega, fun _ _ _ _ _ => rfl⟩⟩
/-- The bytes of bits. -/
def bytesB (M : List UInt8) : Nat → List UInt8
  | 0 => []
  | n + 1 => UInt8.ofNat (numB (M.take 8)) :: bytesB (M.drop 8) n
theorem bytesB_length (M : List UInt8) (n : Nat) : (bytesB M n).length = n := by
  induction n generalizing M with
  | zero => rfl
  | succ n ih => simp [bytesB, ih]
theorem bytesB_same : ∀ (n : Nat) (M M' : List UInt8), M'.take (8 * n) = M.take (8 * n) → bytesB M' n = bytesB M n
  | 0, _, _, _ => rfl
  | n + 1, M, M', h => by
    unfold bytesB
    have h1 := take_less h (show 8 ≤ 8 * (n + 1) by omega)
    have h2 := congrArg (List.drop 8) h
    rw [List.drop_take, List.drop_take, show 8 * (n + 1) - 8 = 8 * n by omega] at h2
    rw [h1, bytesB_same n (M.drop 8) (M'.drop 8) h2]
/-- n bytes of a block of kind 0 are put out. -/
def storeX (n : Nat) : X Unit := fun L lim s => if lim < s.out.length + n then .error 3 else if L.length < s.pos + 8 * n then .error 10 else .ok ((), ⟨s.pos + 8 * n, s.out ++ bytesB (L.drop s.pos) n, s.steps + n⟩)
theorem good_store (n : Nat) : Good 0 0 (storeX n) := ⟨fun L lim s a s' _ he h1 h2 => by
  unfold storeX at he
  by_cases c1 : lim < s.out.length + n
  · rw [if_pos c1] at he; cases he
  · rw [if_neg c1] at he
    by_cases c2 : L.length < s.pos + 8 * n
    · rw [if_pos c2] at he; cases he
    · rw [if_neg c2] at he
      injection he with he
      injection he with he1 he2
      subst he2
      refine ⟨by show s.pos ≤ s.pos + 8 * n; omega, by show s.pos + 8 * n ≤ _; omega, by simp, by simp [bytesB_length]; omega, by show s.steps + n + s.pos + 0 ≤ s.steps + (s.pos + 8 * n) + 0; omega, fun L' lim' _ hL hl => ?_⟩
      have hL : L'.take (s.pos + 8 * n) = L.take (s.pos + 8 * n) := hL
      have hl : (s.out ++ bytesB (L.drop s.pos) n).length ≤ lim' := hl
      rw [List.length_append, bytesB_length] at hl
      unfold storeX
      rw [if_neg (by omega), if_neg (by have := take_len hL (by omega); omega), bytesB_same n (L.drop s.pos) (L'.drop s.pos) (take_drop_eq hL)]⟩
/-- A byte is put out. -/
def putX (x : Nat) : X Unit := fun _ lim s => if lim < s.out.length + 1 then .error 3 else .ok ((), ⟨s.pos, s.out ++ [UInt8.ofNat x], s.steps⟩)
theorem good_put (x : Nat) : Good 0 0 (putX x) := ⟨fun L lim s a s' _ he h1 h2 => by
  unfold putX at he
  by_cases c1 : lim < s.out.length + 1
  · rw [if_pos c1] at he; cases he
  · rw [if_neg c1] at he
    injection he with he
    injection he with he1 he2
    subst he2
    refine ⟨Nat.le_refl _, h1, by simp, by simp; omega, by show s.steps + s.pos + 0 ≤ s.steps + s.pos + 0; omega, fun L' lim' _ _ hl => ?_⟩
    have hl : (s.out ++ [UInt8.ofNat x]).length ≤ lim' := hl
    rw [List.length_append] at hl
    unfold putX
    rw [if_neg (by simpa using hl)]⟩
/-- n bytes from so far back, byte by byte. -/
def copyL (far : Nat) : Nat → List UInt8 → List UInt8
  | 0, o => o
  | n + 1, o => copyL far n (o ++ [o.getD (o.length - far) 0])
theorem copyL_length (far n : Nat) (o : List UInt8) : (copyL far n o).length = o.length + n := by
  induction n generalizing o with
  | zero => rfl
  | succ n ih => rw [copyL, ih, List.length_append]; simp; omega
def copyX (n far : Nat) : X Unit := fun _ lim s => if s.out.length < far then .error 2 else if lim < s.out.length + n then .error 3 else .ok ((), ⟨s.pos, copyL far n s.out, s.steps⟩)
theorem good_copy (n far : Nat) : Good 0 0 (copyX n far) := ⟨fun L lim s a s' _ he h1 h2 => by
  unfold copyX at he
  by_cases c0 : s.out.length < far
  · rw [if_pos c0] at he; cases he
  · rw [if_neg c0] at he
    by_cases c1 : lim < s.out.length + n
    · rw [if_pos c1] at he; cases he
    · rw [if_neg c1] at he
      injection he with he
      injection he with he1 he2
      subst he2
      refine ⟨Nat.le_refl _, h1, by show s.out.length ≤ (copyL far n s.out).length; rw [copyL_length]; omega, by show (copyL far n s.out).length ≤ lim; rw [copyL_length]; omega, by show s.steps + s.pos + 0 ≤ s.steps + s.pos + 0; omega, fun L' lim' _ _ hl => ?_⟩
      have hl : (copyL far n s.out).length ≤ lim' := hl
      rw [copyL_length] at hl
      unfold copyX
      rw [if_neg c0, if_neg (by omega)]⟩
/-- A block of kind 0. -/
def storedX : X Unit := bindX alignX fun _ => bindX (numX 16) fun n => bindX (numX 16) fun t => if n + t ≠ 65535 then failX 2 else storeX n
theorem good_stored : Good 0 0 storedX :=
  (good_bind good_align fun _ => good_bind (good_num 16) fun n => good_bind (k' := 0) (g' := 0) (good_num 16) fun t => by split; exact good_fail 2; exact good_store n).weak (by omega)
def places : List Nat := [16, 17, 18, 0, 8, 7, 9, 6, 10, 5, 11, 4, 12, 3, 13, 2, 14, 1, 15]
/-- The helpers' lengths from the i-th on, k of them. -/
def helpX : Nat → Nat → List Nat → X (List Nat)
  | 0, _, h => pureX h
  | k + 1, i, h => bindX stepX fun _ => bindX (numX 3) fun x => helpX k (i + 1) (h.set (places.getD i 0) x)
theorem good_help (k i : Nat) (h : List Nat) : Good 0 0 (helpX k i h) := by
  induction k generalizing i h with
  | zero => exact good_pure h
  | succ k ih => exact (good_bind good_step fun _ => good_bind (good_num 3) fun x => ih _ _).weak (by omega)
/-- What a helper's sign tells: how many times, which length. -/
def runX (s : Nat) (l : List Nat) : X (Nat × Nat) :=
  if s = 16 then (if l.length = 0 then failX 2 else bindX (numX 2) fun x => pureX (3 + x, l.getLastD 0))
  else if s = 17 then bindX (numX 3) fun x => pureX (3 + x, 0)
  else if s = 18 then bindX (numX 7) fun x => pureX (11 + x, 0)
  else pureX (1, s)
theorem good_run (s : Nat) (l : List Nat) : Good 0 0 (runX s l) := by
  unfold runX
  split
  · split
    · exact good_fail 2
    · exact (good_bind (good_num 2) fun x => good_pure _).weak (by omega)
  · split
    · exact (good_bind (good_num 3) fun x => good_pure _).weak (by omega)
    · split
      · exact (good_bind (good_num 7) fun x => good_pure _).weak (by omega)
      · exact good_pure _
/-- The lengths of letters and distances, up to so many. -/
def lensX (h : List Nat) (total : Nat) : Nat → List Nat → X (List Nat)
  | 0, _ => failX 99
  | k + 1, l => if total ≤ l.length then pureX l else bindX stepX fun _ => bindX (signX h) fun s => bindX (runX s l) fun r => if total < l.length + r.1 then failX 2 else lensX h total k (l ++ List.replicate r.1 r.2)
theorem good_lens (h : List Nat) (total k : Nat) (l : List Nat) : Good 0 0 (lensX h total k l) := by
  induction k generalizing l with
  | zero => exact good_fail 99
  | succ k ih =>
    unfold lensX
    split
    · exact good_pure l
    · exact (good_bind good_step fun _ => good_bind (good_sign h) fun s => good_bind (k' := 0) (g' := 0) (good_run s l) fun r => by split; exact good_fail 2; exact ih _).weak (by omega)
/-- The lengths are a code's. -/
def right (ls : List Nat) (lone : Bool) : Bool := decide (okF (cnt ls) ∧ (fst (cnt ls) 16 = 65536 ∨ (lone = true ∧ loneF (cnt ls))))
/-- The codes that a block of kind 2 tells. -/
def toldX : X (List Nat × List Nat) :=
  bindX (numX 5) fun a => bindX (numX 5) fun b => bindX (numX 4) fun c =>
    if 286 < 257 + a ∨ 30 < 1 + b then failX 2 else
    bindX (helpX (4 + c) 0 (List.replicate 19 0)) fun h =>
    if right h false = false then failX 2 else
    bindX (lensX h (257 + a + (1 + b)) (257 + a + (1 + b) + 1) []) fun l =>
    if right (l.take (257 + a)) false = false ∨ right (l.drop (257 + a)) true = false ∨ l.getD 256 0 = 0 then failX 2 else pureX (l.take (257 + a), l.drop (257 + a))
theorem good_told : Good 0 0 toldX := by
  refine (good_bind (good_num 5) fun a => good_bind (good_num 5) fun b => good_bind (k' := 0) (g' := 0) (good_num 4) fun c => ?_).weak (k' := 0) (g' := 0) (by omega)
  split
  · exact good_fail 2
  · refine (good_bind (k' := 0) (g' := 0) (good_help _ _ _) fun h => ?_).weak (by omega)
    split
    · exact good_fail 2
    · refine (good_bind (k' := 0) (g' := 0) (good_lens _ _ _ _) fun l => ?_).weak (by omega)
      split
      · exact good_fail 2
      · exact good_pure _
/-- What a letter tells: how many bits more, and the least length. -/
def lenMore (s : Nat) : Nat := if s = 285 then 0 else if 265 ≤ s then (s - 261) / 4 else 0
def lenSum : Nat → Nat
  | 0 => 3
  | k + 1 => lenSum k + 2 ^ (if 261 ≤ 257 + k then (257 + k - 261) / 4 else 0)
def lenBase (s : Nat) : Nat := if s = 285 then 258 else lenSum (s - 257)
/-- What a distance's sign tells. -/
def distMore (d : Nat) : Nat := if d < 4 then 0 else d / 2 - 1
def distSum : Nat → Nat
  | 0 => 1
  | k + 1 => distSum k + 2 ^ (if 2 ≤ k then k / 2 - 1 else 0)
/-- A letter of a block of kind 1 or 2: is the block at its end? -/
def letterX (a b : List Nat) : X Bool :=
  bindX stepX fun _ => bindX (signX a) fun s =>
    if s = 256 then pureX true else if s < 256 then bindX (putX s) fun _ => pureX false else if 285 < s then failX 2 else
    bindX (numX (lenMore s)) fun x => bindX (signX b) fun d =>
    if 29 < d then failX 2 else bindX (numX (distMore d)) fun y => bindX (copyX (lenBase s + x) (distSum d + y)) fun _ => pureX false
theorem good_letter (a b : List Nat) : Good 0 0 (letterX a b) := by
  refine (good_bind good_step fun _ => good_bind (k' := 0) (g' := 0) (good_sign a) fun s => ?_).weak (by omega)
  split
  · exact good_pure _
  · split
    · exact (good_bind (good_put s) fun _ => good_pure _).weak (by omega)
    · split
      · exact good_fail 2
      · refine (good_bind (k' := 0) (g' := 0) (good_num _) fun x => ?_).weak (k' := 0) (g' := 0) (by omega)
        refine (good_bind (k' := 0) (g' := 0) (good_sign b) fun d => ?_).weak (k' := 0) (g' := 0) (by omega)
        split
        · exact good_fail 2
        · exact (good_bind (good_num _) fun y => good_bind (good_copy _ _) fun _ => good_pure _).weak (by omega)
/-- Again and again, until it says that it is at its end. -/
def loopX (body : X Bool) : Nat → X Unit
  | 0 => failX 99
  | k + 1 => bindX body fun d => if d = true then pureX () else loopX body k
theorem good_loop {body : X Bool} (h : Good 0 0 body) (k : Nat) : Good 0 0 (loopX body k) := by
  induction k with
  | zero => exact good_fail 99
  | succ k ih => exact (good_bind (k' := 0) (g' := 0) h fun d => by split; exact good_pure (); exact ih).weak (by omega)
/-- Each time it goes on by a bit at least. -/
def Goes {α : Type} (f : X α) : Prop := ∀ L lim s a s', Bits L → f L lim s = .ok (a, s') → s.pos ≤ L.length → s.out.length ≤ lim → s.pos < s'.pos
theorem bind_ok {α β : Type} {f : X α} {h : α → X β} {L : List UInt8} {lim : Nat} {s s' : Sx} {b : β} (he : bindX f h L lim s = .ok (b, s')) : ∃ a s1, f L lim s = .ok (a, s1) ∧ h a L lim s1 = .ok (b, s') := by
  unfold bindX at he
  cases hf : f L lim s with
  | error e => rw [hf] at he; cases he
  | ok r =>
    obtain ⟨a, s1⟩ := r
    rw [hf] at he
    exact ⟨a, s1, rfl, he⟩
theorem ok_bind {α β : Type} {f : X α} {h : α → X β} {L : List UInt8} {lim : Nat} {s s1 : Sx} {a : α} {r : Except Nat (β × Sx)} (hf : f L lim s = .ok (a, s1)) (hh : h a L lim s1 = r) : bindX f h L lim s = r := by
  unfold bindX; rw [hf]; exact hh
/-- How often does not matter, where it is often enough; another body may stand in its place, if it does the same. -/
theorem loop_more {f f' : X Bool} (hf : Good 0 0 f) (hg : Goes f) {L : List UInt8} {lim : Nat} (hb : Bits L) (D : Nat) (hsame : ∀ s a s', s'.pos - s.pos ≤ D → f L lim s = .ok (a, s') → s.pos ≤ L.length → s.out.length ≤ lim → f' L lim s = .ok (a, s')) :
    ∀ (k k' : Nat) (s s' : Sx), loopX f k L lim s = .ok ((), s') → s.pos ≤ L.length → s.out.length ≤ lim → s'.pos - s.pos ≤ D → s'.pos - s.pos ≤ k' → loopX f' k' L lim s = .ok ((), s')
  | 0, _, s, s', he, _, _, _, _ => by cases he
  | k + 1, k', s, s', he, h1, h2, hD, hk => by
    obtain ⟨a, s1, e1, e2⟩ := bind_ok he
    obtain ⟨p1, p2, p3, p4, p5, p6⟩ := hf.all L lim s a s1 hb e1 h1 h2
    have hlt := hg L lim s a s1 hb e1 h1 h2
    cases a with
    | true =>
      simp only [if_true] at e2
      injection e2 with e2
      injection e2 with _ e3
      subst e3
      obtain ⟨j, rfl⟩ : ∃ j, k' = j + 1 := ⟨k' - 1, by omega⟩
      exact ok_bind (hsame s true s1 hD e1 h1 h2) rfl
    | false =>
      have e2 : loopX f k L lim s1 = .ok ((), s') := e2
      obtain ⟨q1, q2, q3, q4, q5, q6⟩ := (good_loop hf k).all L lim s1 () s' hb e2 p2 p4
      obtain ⟨j, rfl⟩ : ∃ j, k' = j + 1 := ⟨k' - 1, by omega⟩
      refine ok_bind (hsame s false s1 (by omega) e1 h1 h2) ?_
      exact loop_more hf hg hb D hsame k j s1 s' e2 p2 p4 (by omega) (by omega)
theorem goes_letter (a b : List Nat) : Goes (letterX a b) := fun L lim s x s' hb he h1 h2 => by
  obtain ⟨u, s1, e1, e2⟩ := bind_ok he
  obtain ⟨p1, p2, p3, p4, p5, p6⟩ := good_step.all L lim s u s1 hb e1 h1 h2
  obtain ⟨v, s2, e3, e4⟩ := bind_ok e2
  obtain ⟨q1, q2, q3, q4, q5, q6⟩ := (good_sign a).all L lim s1 v s2 hb e3 p2 p4
  have hs1 : s1.pos = s.pos ∧ s1.steps = s.steps + 1 := by
    injection e1 with e1
    injection e1 with _ e1
    subst e1
    exact ⟨rfl, rfl⟩
  have hs2 : s1.pos < s2.pos := by
    have : s2.steps = s1.steps := by
      unfold signX at e3
      split at e3
      · cases e3
      · injection e3 with e3
        injection e3 with _ e3
        subst e3; rfl
    omega
  have hrest : s2.pos ≤ s'.pos := by
    have hg : Good 0 0 (if v = 256 then pureX true else if v < 256 then bindX (putX v) fun _ => pureX false else if 285 < v then failX 2 else
        bindX (numX (lenMore v)) fun x => bindX (signX b) fun d => if 29 < d then failX 2 else bindX (numX (distMore d)) fun y => bindX (copyX (lenBase v + x) (distSum d + y)) fun _ => pureX false) := by
      split
      · exact good_pure _
      · split
        · exact (good_bind (good_put v) fun _ => good_pure _).weak (by omega)
        · split
          · exact good_fail 2
          · refine (good_bind (k' := 0) (g' := 0) (good_num _) fun x => ?_).weak (k' := 0) (g' := 0) (by omega)
            refine (good_bind (k' := 0) (g' := 0) (good_sign b) fun d => ?_).weak (k' := 0) (g' := 0) (by omega)
            split
            · exact good_fail 2
            · exact (good_bind (good_num _) fun y => good_bind (good_copy _ _) fun _ => good_pure _).weak (by omega)
    exact (hg.all L lim s2 x s' hb e4 q2 q4).1
  omega
/-- The fixed codes' lengths. -/
def fixA : List Nat := (List.range 288).map fun k => if k < 144 then 8 else if k < 256 then 9 else if k < 280 then 7 else 8
def fixB : List Nat := List.replicate 32 5
/-- What a block holds, behind its first three bits. -/
def kindX (F kind : Nat) : X Unit :=
  if kind = 0 then storedX else if kind = 1 then loopX (letterX fixA fixB) F else if kind = 2 then bindX toldX fun c => loopX (letterX c.1 c.2) F else failX 2
theorem good_kind (F kind : Nat) : Good 0 0 (kindX F kind) := by
  unfold kindX
  split
  · exact good_stored
  · split
    · exact good_loop (good_letter _ _) F
    · split
      · exact (good_bind (k' := 0) (g' := 0) good_told fun c => good_loop (good_letter _ _) F).weak (by omega)
      · exact good_fail 2
/-- A block: is it the last one? -/
def blockX (F : Nat) : X Bool := bindX stepX fun _ => bindX (numX 1) fun last => bindX (numX 2) fun kind => bindX (kindX F kind) fun _ => pureX (decide (last = 1))
theorem good_block (F : Nat) : Good 0 0 (blockX F) :=
  (good_bind good_step fun _ => good_bind (good_num 1) fun last => good_bind (good_num 2) fun kind => good_bind (good_kind F kind) fun _ => good_pure _).weak (by omega)
theorem num_ok {n : Nat} {L : List UInt8} {lim : Nat} {s s' : Sx} {x : Nat} (h : numX n L lim s = .ok (x, s')) : s'.pos = s.pos + n ∧ s'.out = s.out ∧ s'.steps = s.steps := by
  unfold numX at h
  split at h
  · cases h
  · injection h with h
    injection h with _ h
    subst h; exact ⟨rfl, rfl, rfl⟩
theorem block_parts {F : Nat} {L : List UInt8} {lim : Nat} {s s' : Sx} {d : Bool} (hb : Bits L) (he : blockX F L lim s = .ok (d, s')) (h1 : s.pos ≤ L.length) (h2 : s.out.length ≤ lim) :
    ∃ last kind s1, s1.pos = s.pos + 3 ∧ s1.pos ≤ L.length ∧ s1.out.length ≤ lim ∧ kindX F kind L lim s1 = .ok ((), s') ∧ d = decide (last = 1) ∧
      ∀ F' s'', kindX F' kind L lim s1 = .ok ((), s'') → blockX F' L lim s = .ok (d, s'') := by
  obtain ⟨u, s1, e1, e2⟩ := bind_ok he
  have g1 := good_step.all L lim s u s1 hb e1 h1 h2
  obtain ⟨last, s2, e3, e4⟩ := bind_ok e2
  have g2 := (good_num 1).all L lim s1 last s2 hb e3 g1.2.1 g1.2.2.2.1
  obtain ⟨kind, s3, e5, e6⟩ := bind_ok e4
  have g3 := (good_num 2).all L lim s2 kind s3 hb e5 g2.2.1 g2.2.2.2.1
  obtain ⟨v, s4, e7, e8⟩ := bind_ok e6
  injection e8 with e8
  injection e8 with e9 e10
  subst e10
  have hs1 : s1.pos = s.pos := by
    injection e1 with e1
    injection e1 with _ e1
    subst e1; rfl
  have n1 := num_ok e3
  have n2 := num_ok e5
  refine ⟨last, kind, s3, by omega, g3.2.1, g3.2.2.2.1, e7, e9.symm, fun F' s'' hk => ?_⟩
  refine ok_bind e1 (ok_bind e3 (ok_bind e5 (ok_bind hk ?_)))
  rw [e9]; rfl
theorem goes_block (F : Nat) : Goes (blockX F) := fun L lim s d s' hb he h1 h2 => by
  obtain ⟨last, kind, s1, p1, p2, p3, p4, _, _⟩ := block_parts hb he h1 h2
  have := ((good_kind F kind).all L lim s1 () s' hb p4 p2 p3).1
  omega
theorem kind_fuel {F F' kind : Nat} {L : List UInt8} {lim : Nat} {s s' : Sx} (hb : Bits L) (he : kindX F kind L lim s = .ok ((), s')) (h1 : s.pos ≤ L.length) (h2 : s.out.length ≤ lim) (hF : s'.pos - s.pos ≤ F') : kindX F' kind L lim s = .ok ((), s') := by
  unfold kindX at he ⊢
  split at he
  · rename_i h; rw [if_pos h]; exact he
  · rename_i h
    rw [if_neg h]
    split at he
    · rename_i h3
      rw [if_pos h3]
      exact loop_more (good_letter _ _) (goes_letter _ _) hb (s'.pos - s.pos) (fun _ _ _ _ h _ _ => h) F F' s s' he h1 h2 (Nat.le_refl _) hF
    · rename_i h3
      rw [if_neg h3]
      split at he
      · rename_i h4
        rw [if_pos h4]
        obtain ⟨c, s1, e1, e2⟩ := bind_ok he
        have g1 := good_told.all L lim s c s1 hb e1 h1 h2
        refine ok_bind e1 ?_
        exact loop_more (good_letter _ _) (goes_letter _ _) hb (s'.pos - s1.pos) (fun _ _ _ _ h _ _ => h) F F' s1 s' e2 g1.2.1 g1.2.2.2.1 (Nat.le_refl _) (by have := g1.1; omega)
      · cases he
theorem block_fuel {F F' : Nat} {L : List UInt8} {lim : Nat} {s s' : Sx} {d : Bool} (hb : Bits L) (he : blockX F L lim s = .ok (d, s')) (h1 : s.pos ≤ L.length) (h2 : s.out.length ≤ lim) (hF : s'.pos - s.pos ≤ F') : blockX F' L lim s = .ok (d, s') := by
  obtain ⟨last, kind, s1, p1, p2, p3, p4, _, p6⟩ := block_parts hb he h1 h2
  exact p6 F' s' (kind_fuel hb p4 p2 p3 (by omega))
/-- What packed bits come to. -/
def inflF (F : Nat) (L : List UInt8) (lim : Nat) : Except Nat (Unit × Sx) := loopX (blockX F) F L lim ⟨0, [], 0⟩
theorem infl_same {F F' : Nat} {L L' : List UInt8} {lim lim' : Nat} {s' : Sx} (hb : Bits L) (hb' : Bits L') (he : inflF F L lim = .ok ((), s')) (hL : L'.take s'.pos = L.take s'.pos) (hl : s'.out.length ≤ lim') (hF : s'.pos ≤ F') : inflF F' L' lim' = .ok ((), s') := by
  have g := (good_loop (good_block F) F).all L lim ⟨0, [], 0⟩ () s' hb he (Nat.zero_le _) (Nat.zero_le _)
  have h1 := g.2.2.2.2.2 L' lim' hb' hL hl
  unfold inflF
  exact loop_more (good_block F) (goes_block F) hb' s'.pos (fun s a s'' hD e p1 p2 => block_fuel hb' e p1 p2 (by omega)) F F' ⟨0, [], 0⟩ s' h1 (Nat.zero_le _) (Nat.zero_le _) (by simp) (by simpa using hF)
/-- How far it goes, how much there is, and how many steps there are. -/
theorem infl_bounds {F : Nat} {L : List UInt8} {lim : Nat} {s' : Sx} (hb : Bits L) (he : inflF F L lim = .ok ((), s')) : 3 ≤ s'.pos ∧ s'.pos ≤ L.length ∧ s'.out.length ≤ lim ∧ s'.steps ≤ s'.pos := by
  have g := (good_loop (good_block F) F).all L lim ⟨0, [], 0⟩ () s' hb he (Nat.zero_le _) (Nat.zero_le _)
  refine ⟨?_, g.2.1, g.2.2.2.1, by have := g.2.2.2.2.1; simpa using this⟩
  cases F with
  | zero => cases he
  | succ F =>
    obtain ⟨d, s1, e1, e2⟩ := bind_ok he
    obtain ⟨last, kind, s2, p1, p2, p3, p4, _, _⟩ := block_parts hb e1 (Nat.zero_le _) (Nat.zero_le _)
    have h1 := (good_kind (F + 1) kind).all L lim s2 () s1 hb p4 p2 p3
    have h2 : s1.pos ≤ s'.pos := by
      split at e2
      · injection e2 with e2; injection e2 with _ e2; subst e2; exact Nat.le_refl _
      · exact ((good_loop (good_block (F + 1)) F).all L lim s1 () s' hb e2 h1.2.1 h1.2.2.2.1).1
    have : s2.pos = 0 + 3 := p1
    have := h1.1
    omega
end Go.Proofs.YtpnnlhegncbfaaaGreatDoor
