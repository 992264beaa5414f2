/- Contract of shortFloat. -/
import Derived.Test.YtfebfkbdbncihaaGreatDoorNtc
namespace Go.Proofs.YtfebfkbdbncihaaGreatDoor
set_option maxRecDepth 100000
open Go.RowKit

/-- The last steps of the shortest figures, of the two ends, the number between them and the scaler. -/
def sfD (dmin dmax : Int) (mid : Int) (p : Int) : Int × Int :=
  if dmin ≤ dmax / 10 * 10 then (dmax / 10, -(p - 1)) else if dmin < dmax then (mid, -p) else (dmin, -p)
def sfT (e p : Int) (mn mx m : Nat) (odd : Int) : Int × Int :=
  sfD (ceilZ (nudgeZ (uscZ mn (p10 (p + 348).toNat).1 (p10 (p + 348).toNat).2 (-(e + l2 p + 3))) odd))
    (floorZ (nudgeZ (uscZ mx (p10 (p + 348).toNat).1 (p10 (p + 348).toNat).2 (-(e + l2 p + 3))) (-odd)))
    (roundZ (uscZ m (p10 (p + 348).toNat).1 (p10 (p + 348).toNat).2 (-(e + l2 p + 3)))) p
theorem wrap_nat (x : Int) : ∃ n : Nat, IntKind.u64.wrap x = (n : Int) ∧ n < 18446744073709551616 := by
  have := wrap_w64 x
  unfold W64 at this
  exact ⟨(IntKind.u64.wrap x).toNat, by omega, by omega⟩
theorem quarter (x : Int) : 0 ≤ IntKind.u64.wrap x / 4 ∧ IntKind.u64.wrap x / 4 ≤ 4611686018427387904 := by
  have := wrap_w64 x
  unfold W64 at this
  omega
theorem usc_nat (x hi lo : Nat) (s : Int) : 0 ≤ uscZ x hi lo s ∧ uscZ x hi lo s < 18446744073709551616 := uscZ_w x hi lo s
theorem and1 (x : Int) : ∃ k : Nat, bits .and .i64 x 1 = (k : Int) ∧ k ≤ 1 := by
  have h : (BitVec.ofInt 64 x &&& BitVec.ofInt 64 1).toNat ≤ 1 := by
    have : (BitVec.ofInt 64 1 : BitVec 64) = 1#64 := by decide
    rw [this, BitVec.toNat_and]
    exact Nat.le_trans (Nat.and_le_right) (by decide)
  refine ⟨_, ?_, h⟩
  show IntKind.i64.wrap ((BitVec.ofInt 64 x &&& BitVec.ofInt 64 1).toNat : Int) = _
  generalize (BitVec.ofInt 64 x &&& BitVec.ofInt 64 1).toNat = n at h ⊢
  unfold IntKind.wrap
  simp [IntKind.signed, IntKind.bits]
  omega
def oddZ (m z : Nat) : Int := bits .and .i64 ((m : Int) / 2 ^ z) 1
/-- The shortest figures of m times 2 to the power of e, and their place. -/
def sfE (m : Nat) (e : Int) : Int × Int :=
  if m = 9223372036854775808 ∧ -1085 < e then sfT e (-skewZ (e + 11)) (IntKind.u64.wrap ((m : Int) - 512)).toNat (IntKind.u64.wrap ((m : Int) + 1024)).toNat m (oddZ m 11)
  else if -1085 ≤ e then sfT e (-l10 (e + 11)) (IntKind.u64.wrap ((m : Int) - 1024)).toNat (IntKind.u64.wrap ((m : Int) + 1024)).toNat m (oddZ m 11)
  else sfT e (-l10 (-1074)) (IntKind.u64.wrap ((m : Int) - IntKind.u64.wrap (2 ^ (-1075 - e).toNat))).toNat (IntKind.u64.wrap ((m : Int) + IntKind.u64.wrap (2 ^ (-1075 - e).toNat))).toNat m (bits .and .i64 (wrap64 ((m : Int) / 2 ^ (-1074 - e).toNat)) 1)
set_option maxHeartbeats 600000 in
theorem sf_a (m : Nat) (e : Int) (w : World) (hm : m < 18446744073709551616) (he0 : -1137 ≤ e) (he2 : e ≤ 1100) (ht : PTab w) (hA : ((m : Int) == 9223372036854775808) = true) (hB : -1085 < e) :
    Calls Tryz.prog 111 #[.int .u64 (m : Int), .int .i64 e] w fun en w' => en = .returned (.tuple #[.int .u64 (sfE m e).1, .int .i64 (sfE m e).2]) ∧ Below w.heap.size w w' := by
  have HT := Lib.hid ht
  clear ht
  have HL := Lib.hid (fun wx => skew_any (e + 11) wx (by omega) (by omega))
  have hLb : -340 ≤ skewZ (e + 11) ∧ skewZ (e + 11) ≤ 340 := by unfold skewZ; omega
  have HO : RowKit.Hid (sfE m e = sfT e (-skewZ (e + 11)) (IntKind.u64.wrap ((m : Int) - 512)).toNat (IntKind.u64.wrap ((m : Int) + 1024)).toNat m (oddZ m 11)) := Lib.hid (by
    unfold sfE
    rw [if_pos ⟨by have := beq_iff_eq.1 hA; omega, hB⟩])
  obtain ⟨L, hL⟩ : ∃ L, skewZ (e + 11) = L := ⟨_, rfl⟩
  rw [hL] at HL hLb HO
  obtain ⟨mn, hmn, hmn2⟩ := wrap_nat ((m : Int) - 512)
  obtain ⟨mx, hmx, hmx2⟩ := wrap_nat ((m : Int) + 1024)
  obtain ⟨oddN, hodd, hodd1⟩ := and1 ((m : Int) / 2048)
  have HOD : RowKit.Hid (oddZ m 11 = (oddN : Int)) := Lib.hid (by unfold oddZ; rw [← hodd]; first | rfl | (norm_cast))
  rw [hmn, hmx, Int.toNat_natCast, Int.toNat_natCast, HOD.out] at HO
  have HMM := Lib.hid (And.intro hmn (And.intro hmx hodd))
  obtain ⟨hLb1, hLb2⟩ := hLb
  clear hL hmn hmx hodd HOD
  generalize sfE m e = SF at HO ⊢
  go_enter Tryz.func111, Tryz.ntmps111
  go_wp2_with (first | (go_at_call 95; (with_reducible refine (HL.out _).mono ?_); rintro en w2 ⟨rfl, rfl⟩) | (go_at_call 137; (with_reducible refine (HL.out _).mono ?_); rintro en w2 ⟨rfl, rfl⟩))
  rw [HMM.out.1, HMM.out.2.1, HMM.out.2.2]
  obtain ⟨p, hp⟩ : ∃ p, -L = p := ⟨_, rfl⟩
  obtain ⟨odd, ho⟩ : ∃ odd, (oddN : Int) = odd := ⟨_, rfl⟩
  rw [hp, ho] at HO
  rw [hp, ho]
  obtain ⟨i, hi0⟩ : ∃ i : Nat, p + 348 = (i : Int) := ⟨(p + 348).toNat, by omega⟩
  have HPI : RowKit.Hid (p = (i : Int) - 348) := Lib.hid (by omega)
  have hi : i < 696 := by omega
  have hp1 : -345 ≤ p := by omega
  have hp2 : p ≤ 345 := by omega
  have ho1 : 0 ≤ odd := by omega
  have ho2 : odd ≤ 1 := by omega
  clear hp ho hi0 HMM HL hLb1 hLb2 hodd1
  refine (l2_any p _ (by omega) (by omega)).mono ?_
  rintro en w2 ⟨rfl, rfl⟩
  have hlp : -1300 ≤ l2 p ∧ l2 p ≤ 1300 := by unfold l2; omega
  obtain ⟨lp, hlpe⟩ : ∃ lp, l2 p = lp := ⟨_, rfl⟩
  have HLP := Lib.hid hlpe
  rw [hlpe] at hlp ⊢
  clear hlpe
  obtain ⟨lp1, lp2⟩ := hlp
  go_wp2_with fail
  have hbig := HT.out.big
  have hal : Below w.heap.size w (w.alloc (.cells #[.int .u64 0, .int .u64 0, .int .i64 0] 185)) := below_make (World.grownBy_alloc w _ none)
  refine (pre_any w.heap.size i e p lp _ _ _ _ HPI.out hi (by omega) (by omega) (by omega) (by omega) (by omega) (Row.new w #[.int .u64 0, .int .u64 0, .int .i64 0] 185) (HT.out.below hal)).mono ?_
  rintro en w3 ⟨rfl, hr3, hg3⟩
  have HX := Lib.hid (And.intro hr3 (hal.grown hg3 (by simp) (fun k hk => by injection hk with hk; omega)))
  obtain ⟨A, hA2⟩ : ∃ A, (p10 i).1 = A := ⟨_, rfl⟩
  obtain ⟨B, hB2⟩ : ∃ B, (p10 i).2 = B := ⟨_, rfl⟩
  have hAl := (HT.out.hi i hi).2
  have hBl := (HT.out.lo i hi).2
  have HI := Lib.hid (show (p + 348).toNat = i by have := HPI.out; omega)
  have HAB := Lib.hid (And.intro hA2 hB2)
  rw [hA2] at HX hAl
  rw [hB2] at HX hBl
  clear hr3 hg3 hal hA2 hB2
  obtain ⟨s, hs⟩ : ∃ s, -(e + lp + 3) = s := ⟨_, rfl⟩
  have HS := Lib.hid hs
  rw [hs] at HX
  clear hs
  go_wp2_with fail
  refine (usc_any mn A B s w.heap.size w3 hmn2 hAl hBl HX.out.1).mono ?_
  rintro en w4 ⟨rfl, k4, rfl⟩
  obtain ⟨u1, hu1⟩ : ∃ u1, uscZ mn A B s = u1 := ⟨_, rfl⟩
  rw [hu1]
  go_wp2_with (first | (go_at_call 141; refine (nudge_any _ _ _).mono ?_; rintro en w5 ⟨rfl, rfl⟩) | (go_at_call 142; refine (ceil_any _ _).mono ?_; rintro en w5 ⟨rfl, rfl⟩))
  refine (usc_any mx A B s w.heap.size (w3.drewN k4) hmx2 hAl hBl HX.out.1).mono ?_
  rintro en w4 ⟨rfl, k5, rfl⟩
  obtain ⟨u2, hu2⟩ : ∃ u2, uscZ mx A B s = u2 := ⟨_, rfl⟩
  rw [hu2]
  obtain ⟨D1, hD1⟩ : ∃ D1, ceilZ (nudgeZ u1 odd) = D1 := ⟨_, rfl⟩
  obtain ⟨D2, hD2⟩ : ∃ D2, floorZ (nudgeZ u2 (-odd)) = D2 := ⟨_, rfl⟩
  have q1 : 0 ≤ D1 ∧ D1 ≤ 4611686018427387904 := by rw [← hD1]; exact quarter _
  have q2 : 0 ≤ D2 ∧ D2 ≤ 4611686018427387904 := by rw [← hD2]; exact quarter _
  obtain ⟨q11, q12⟩ := q1
  obtain ⟨q21, q22⟩ := q2
  have HSF : RowKit.Hid (sfT e p mn mx m odd = sfD D1 D2 (roundZ (uscZ m A B s)) p) := Lib.hid (by
    unfold sfT
    rw [HI.out, HAB.out.1, HAB.out.2, HLP.out, HS.out, hu1, hu2, hD1, hD2])
  rw [hD1]
  have HD2 := Lib.hid hD2
  clear hu1 hu2 hD1 hD2 HI HAB HS HLP
  by_cases c1 : D1 ≤ D2 / 10 * 10
  · have HR : RowKit.Hid (sfT e p mn mx m odd = (D2 / 10, -(p - 1))) := Lib.hid (by rw [HSF.out]; unfold sfD; rw [if_pos c1])
    go_wp2_with (first | (go_at_call 141; refine (nudge_any _ _ _).mono ?_; rintro en w5 ⟨rfl, rfl⟩) | (go_at_call 143; refine (floor_any _ _).mono ?_; rintro en w5 ⟨rfl, rfl⟩; rw [HD2.out]))
    go_ret2
    exact ⟨by rw [HO.out, HR.out]; rfl, HX.out.2.grown (grown_drewN w3 _) HX.out.2.size (fun _ h => by cases h)⟩
  · by_cases c2 : D1 < D2
    · obtain ⟨R, hR⟩ : ∃ R, roundZ (uscZ m A B s) = R := ⟨_, rfl⟩
      have HR : RowKit.Hid (sfT e p mn mx m odd = (R, -p)) := Lib.hid (by rw [HSF.out]; unfold sfD; rw [if_neg c1, if_pos c2, hR])
      go_wp2_with (first | (go_at_call 141; refine (nudge_any _ _ _).mono ?_; rintro en w5 ⟨rfl, rfl⟩) | (go_at_call 143; refine (floor_any _ _).mono ?_; rintro en w5 ⟨rfl, rfl⟩; rw [HD2.out]))
      refine (usc_any m A B s w.heap.size (w3.drewN (k4 + k5)) hm hAl hBl HX.out.1).mono ?_
      rintro en w4 ⟨rfl, k6, rfl⟩
      go_wp2_with (first | (go_at_call 144; refine (round_any _ _).mono ?_; rintro en w5 ⟨rfl, rfl⟩; rw [hR]))
      go_ret2
      exact ⟨by rw [HO.out, HR.out]; rfl, HX.out.2.grown (grown_drewN w3 _) HX.out.2.size (fun _ h => by cases h)⟩
    · have HR : RowKit.Hid (sfT e p mn mx m odd = (D1, -p)) := Lib.hid (by rw [HSF.out]; unfold sfD; rw [if_neg c1, if_neg c2])
      go_wp2_with (first | (go_at_call 141; refine (nudge_any _ _ _).mono ?_; rintro en w5 ⟨rfl, rfl⟩) | (go_at_call 143; refine (floor_any _ _).mono ?_; rintro en w5 ⟨rfl, rfl⟩; rw [HD2.out]))
      go_ret2
      exact ⟨by rw [HO.out, HR.out]; rfl, HX.out.2.grown (grown_drewN w3 _) HX.out.2.size (fun _ h => by cases h)⟩
set_option maxHeartbeats 600000 in
theorem sf_b (m : Nat) (e : Int) (w : World) (hm : m < 18446744073709551616) (he0 : -1137 ≤ e) (he2 : e ≤ 1100) (ht : PTab w) (hA : ((m : Int) == 9223372036854775808) = false) (hB : -1085 ≤ e) :
    Calls Tryz.prog 111 #[.int .u64 (m : Int), .int .i64 e] w fun en w' => en = .returned (.tuple #[.int .u64 (sfE m e).1, .int .i64 (sfE m e).2]) ∧ Below w.heap.size w w' := by
  have HT := Lib.hid ht
  clear ht
  have HL := Lib.hid (fun wx => l10_any (e + 11) wx (by omega) (by omega))
  have hLb : -340 ≤ l10 (e + 11) ∧ l10 (e + 11) ≤ 340 := by unfold l10; omega
  have HO : RowKit.Hid (sfE m e = sfT e (-l10 (e + 11)) (IntKind.u64.wrap ((m : Int) - 1024)).toNat (IntKind.u64.wrap ((m : Int) + 1024)).toNat m (oddZ m 11)) := Lib.hid (by
    unfold sfE
    rw [if_neg (by rintro ⟨h1, _⟩; rw [h1] at hA; cases hA), if_pos hB])
  obtain ⟨L, hL⟩ : ∃ L, l10 (e + 11) = L := ⟨_, rfl⟩
  rw [hL] at HL hLb HO
  obtain ⟨mn, hmn, hmn2⟩ := wrap_nat ((m : Int) - 1024)
  obtain ⟨mx, hmx, hmx2⟩ := wrap_nat ((m : Int) + 1024)
  obtain ⟨oddN, hodd, hodd1⟩ := and1 ((m : Int) / 2048)
  have HOD : RowKit.Hid (oddZ m 11 = (oddN : Int)) := Lib.hid (by unfold oddZ; rw [← hodd]; first | rfl | (norm_cast))
  rw [hmn, hmx, Int.toNat_natCast, Int.toNat_natCast, HOD.out] at HO
  have HMM := Lib.hid (And.intro hmn (And.intro hmx hodd))
  obtain ⟨hLb1, hLb2⟩ := hLb
  clear hL hmn hmx hodd HOD
  generalize sfE m e = SF at HO ⊢
  go_enter Tryz.func111, Tryz.ntmps111
  go_wp2_with (first | (go_at_call 95; (with_reducible refine (HL.out _).mono ?_); rintro en w2 ⟨rfl, rfl⟩) | (go_at_call 137; (with_reducible refine (HL.out _).mono ?_); rintro en w2 ⟨rfl, rfl⟩))
  rw [HMM.out.1, HMM.out.2.1, HMM.out.2.2]
  obtain ⟨p, hp⟩ : ∃ p, -L = p := ⟨_, rfl⟩
  obtain ⟨odd, ho⟩ : ∃ odd, (oddN : Int) = odd := ⟨_, rfl⟩
  rw [hp, ho] at HO
  rw [hp, ho]
  obtain ⟨i, hi0⟩ : ∃ i : Nat, p + 348 = (i : Int) := ⟨(p + 348).toNat, by omega⟩
  have HPI : RowKit.Hid (p = (i : Int) - 348) := Lib.hid (by omega)
  have hi : i < 696 := by omega
  have hp1 : -345 ≤ p := by omega
  have hp2 : p ≤ 345 := by omega
  have ho1 : 0 ≤ odd := by omega
  have ho2 : odd ≤ 1 := by omega
  clear hp ho hi0 HMM HL hLb1 hLb2 hodd1
  refine (l2_any p _ (by omega) (by omega)).mono ?_
  rintro en w2 ⟨rfl, rfl⟩
  have hlp : -1300 ≤ l2 p ∧ l2 p ≤ 1300 := by unfold l2; omega
  obtain ⟨lp, hlpe⟩ : ∃ lp, l2 p = lp := ⟨_, rfl⟩
  have HLP := Lib.hid hlpe
  rw [hlpe] at hlp ⊢
  clear hlpe
  obtain ⟨lp1, lp2⟩ := hlp
  go_wp2_with fail
  have hbig := HT.out.big
  have hal : Below w.heap.size w (w.alloc (.cells #[.int .u64 0, .int .u64 0, .int .i64 0] 185)) := below_make (World.grownBy_alloc w _ none)
  refine (pre_any w.heap.size i e p lp _ _ _ _ HPI.out hi (by omega) (by omega) (by omega) (by omega) (by omega) (Row.new w #[.int .u64 0, .int .u64 0, .int .i64 0] 185) (HT.out.below hal)).mono ?_
  rintro en w3 ⟨rfl, hr3, hg3⟩
  have HX := Lib.hid (And.intro hr3 (hal.grown hg3 (by simp) (fun k hk => by injection hk with hk; omega)))
  obtain ⟨A, hA2⟩ : ∃ A, (p10 i).1 = A := ⟨_, rfl⟩
  obtain ⟨B, hB2⟩ : ∃ B, (p10 i).2 = B := ⟨_, rfl⟩
  have hAl := (HT.out.hi i hi).2
  have hBl := (HT.out.lo i hi).2
  have HI := Lib.hid (show (p + 348).toNat = i by have := HPI.out; omega)
  have HAB := Lib.hid (And.intro hA2 hB2)
  rw [hA2] at HX hAl
  rw [hB2] at HX hBl
  clear hr3 hg3 hal hA2 hB2
  obtain ⟨s, hs⟩ : ∃ s, -(e + lp + 3) = s := ⟨_, rfl⟩
  have HS := Lib.hid hs
  rw [hs] at HX
  clear hs
  go_wp2_with fail
  refine (usc_any mn A B s w.heap.size w3 hmn2 hAl hBl HX.out.1).mono ?_
  rintro en w4 ⟨rfl, k4, rfl⟩
  obtain ⟨u1, hu1⟩ : ∃ u1, uscZ mn A B s = u1 := ⟨_, rfl⟩
  rw [hu1]
  go_wp2_with (first | (go_at_call 141; refine (nudge_any _ _ _).mono ?_; rintro en w5 ⟨rfl, rfl⟩) | (go_at_call 142; refine (ceil_any _ _).mono ?_; rintro en w5 ⟨rfl, rfl⟩))
  refine (usc_any mx A B s w.heap.size (w3.drewN k4) hmx2 hAl hBl HX.out.1).mono ?_
  rintro en w4 ⟨rfl, k5, rfl⟩
  obtain ⟨u2, hu2⟩ : ∃ u2, uscZ mx A B s = u2 := ⟨_, rfl⟩
  rw [hu2]
  obtain ⟨D1, hD1⟩ : ∃ D1, ceilZ (nudgeZ u1 odd) = D1 := ⟨_, rfl⟩
  obtain ⟨D2, hD2⟩ : ∃ D2, floorZ (nudgeZ u2 (-odd)) = D2 := ⟨_, rfl⟩
  have q1 : 0 ≤ D1 ∧ D1 ≤ 4611686018427387904 := by rw [← hD1]; exact quarter _
  have q2 : 0 ≤ D2 ∧ D2 ≤ 4611686018427387904 := by rw [← hD2]; exact quarter _
  obtain ⟨q11, q12⟩ := q1
  obtain ⟨q21, q22⟩ := q2
  have HSF : RowKit.Hid (sfT e p mn mx m odd = sfD D1 D2 (roundZ (uscZ m A B s)) p) := Lib.hid (by
    unfold sfT
    rw [HI.out, HAB.out.1, HAB.out.2, HLP.out, HS.out, hu1, hu2, hD1, hD2])
  rw [hD1]
  have HD2 := Lib.hid hD2
  clear hu1 hu2 hD1 hD2 HI HAB HS HLP
  by_cases c1 : D1 ≤ D2 / 10 * 10
  · have HR : RowKit.Hid (sfT e p mn mx m odd = (D2 / 10, -(p - 1))) := Lib.hid (by rw [HSF.out]; unfold sfD; rw [if_pos c1])
    go_wp2_with (first | (go_at_call 141; refine (nudge_any _ _ _).mono ?_; rintro en w5 ⟨rfl, rfl⟩) | (go_at_call 143; refine (floor_any _ _).mono ?_; rintro en w5 ⟨rfl, rfl⟩; rw [HD2.out]))
    go_ret2
    exact ⟨by rw [HO.out, HR.out]; rfl, HX.out.2.grown (grown_drewN w3 _) HX.out.2.size (fun _ h => by cases h)⟩
  · by_cases c2 : D1 < D2
    · obtain ⟨R, hR⟩ : ∃ R, roundZ (uscZ m A B s) = R := ⟨_, rfl⟩
      have HR : RowKit.Hid (sfT e p mn mx m odd = (R, -p)) := Lib.hid (by rw [HSF.out]; unfold sfD; rw [if_neg c1, if_pos c2, hR])
      go_wp2_with (first | (go_at_call 141; refine (nudge_any _ _ _).mono ?_; rintro en w5 ⟨rfl, rfl⟩) | (go_at_call 143; refine (floor_any _ _).mono ?_; rintro en w5 ⟨rfl, rfl⟩; rw [HD2.out]))
      refine (usc_any m A B s w.heap.size (w3.drewN (k4 + k5)) hm hAl hBl HX.out.1).mono ?_
      rintro en w4 ⟨rfl, k6, rfl⟩
      go_wp2_with (first | (go_at_call 144; refine (round_any _ _).mono ?_; rintro en w5 ⟨rfl, rfl⟩; rw [hR]))
      go_ret2
      exact ⟨by rw [HO.out, HR.out]; rfl, HX.out.2.grown (grown_drewN w3 _) HX.out.2.size (fun _ h => by cases h)⟩
    · have HR : RowKit.Hid (sfT e p mn mx m odd = (D1, -p)) := Lib.hid (by rw [HSF.out]; unfold sfD; rw [if_neg c1, if_neg c2])
      go_wp2_with (first | (go_at_call 141; refine (nudge_any _ _ _).mono ?_; rintro en w5 ⟨rfl, rfl⟩) | (go_at_call 143; refine (floor_any _ _).mono ?_; rintro en w5 ⟨rfl, rfl⟩; rw [HD2.out]))
      go_ret2
      exact ⟨by rw [HO.out, HR.out]; rfl, HX.out.2.grown (grown_drewN w3 _) HX.out.2.size (fun _ h => by cases h)⟩
set_option maxHeartbeats 600000 in
theorem sf_b2 (m : Nat) (e : Int) (w : World) (hm : m < 18446744073709551616) (he0 : -1137 ≤ e) (he2 : e ≤ 1100) (ht : PTab w) (hA : ((m : Int) == 9223372036854775808) = true) (hC : ¬ -1085 < e) (hB : -1085 ≤ e) :
    Calls Tryz.prog 111 #[.int .u64 (m : Int), .int .i64 e] w fun en w' => en = .returned (.tuple #[.int .u64 (sfE m e).1, .int .i64 (sfE m e).2]) ∧ Below w.heap.size w w' := by
  have HT := Lib.hid ht
  clear ht
  have HL := Lib.hid (fun wx => l10_any (e + 11) wx (by omega) (by omega))
  have hLb : -340 ≤ l10 (e + 11) ∧ l10 (e + 11) ≤ 340 := by unfold l10; omega
  have HO : RowKit.Hid (sfE m e = sfT e (-l10 (e + 11)) (IntKind.u64.wrap ((m : Int) - 1024)).toNat (IntKind.u64.wrap ((m : Int) + 1024)).toNat m (oddZ m 11)) := Lib.hid (by
    unfold sfE
    rw [if_neg (by rintro ⟨_, h1⟩; exact hC h1), if_pos hB])
  obtain ⟨L, hL⟩ : ∃ L, l10 (e + 11) = L := ⟨_, rfl⟩
  rw [hL] at HL hLb HO
  obtain ⟨mn, hmn, hmn2⟩ := wrap_nat ((m : Int) - 1024)
  obtain ⟨mx, hmx, hmx2⟩ := wrap_nat ((m : Int) + 1024)
  obtain ⟨oddN, hodd, hodd1⟩ := and1 ((m : Int) / 2048)
  have HOD : RowKit.Hid (oddZ m 11 = (oddN : Int)) := Lib.hid (by unfold oddZ; rw [← hodd]; first | rfl | (norm_cast))
  rw [hmn, hmx, Int.toNat_natCast, Int.toNat_natCast, HOD.out] at HO
  have HMM := Lib.hid (And.intro hmn (And.intro hmx hodd))
  obtain ⟨hLb1, hLb2⟩ := hLb
  clear hL hmn hmx hodd HOD
  generalize sfE m e = SF at HO ⊢
  go_enter Tryz.func111, Tryz.ntmps111
  go_wp2_with (first | (go_at_call 95; (with_reducible refine (HL.out _).mono ?_); rintro en w2 ⟨rfl, rfl⟩) | (go_at_call 137; (with_reducible refine (HL.out _).mono ?_); rintro en w2 ⟨rfl, rfl⟩))
  rw [HMM.out.1, HMM.out.2.1, HMM.out.2.2]
  obtain ⟨p, hp⟩ : ∃ p, -L = p := ⟨_, rfl⟩
  obtain ⟨odd, ho⟩ : ∃ odd, (oddN : Int) = odd := ⟨_, rfl⟩
  rw [hp, ho] at HO
  rw [hp, ho]
  obtain ⟨i, hi0⟩ : ∃ i : Nat, p + 348 = (i : Int) := ⟨(p + 348).toNat, by omega⟩
  have HPI : RowKit.Hid (p = (i : Int) - 348) := Lib.hid (by omega)
  have hi : i < 696 := by omega
  have hp1 : -345 ≤ p := by omega
  have hp2 : p ≤ 345 := by omega
  have ho1 : 0 ≤ odd := by omega
  have ho2 : odd ≤ 1 := by omega
  clear hp ho hi0 HMM HL hLb1 hLb2 hodd1
  refine (l2_any p _ (by omega) (by omega)).mono ?_
  rintro en w2 ⟨rfl, rfl⟩
  have hlp : -1300 ≤ l2 p ∧ l2 p ≤ 1300 := by unfold l2; omega
  obtain ⟨lp, hlpe⟩ : ∃ lp, l2 p = lp := ⟨_, rfl⟩
  have HLP := Lib.hid hlpe
  rw [hlpe] at hlp ⊢
  clear hlpe
  obtain ⟨lp1, lp2⟩ := hlp
  go_wp2_with fail
  have hbig := HT.out.big
  have hal : Below w.heap.size w (w.alloc (.cells #[.int .u64 0, .int .u64 0, .int .i64 0] 185)) := below_make (World.grownBy_alloc w _ none)
  refine (pre_any w.heap.size i e p lp _ _ _ _ HPI.out hi (by omega) (by omega) (by omega) (by omega) (by omega) (Row.new w #[.int .u64 0, .int .u64 0, .int .i64 0] 185) (HT.out.below hal)).mono ?_
  rintro en w3 ⟨rfl, hr3, hg3⟩
  have HX := Lib.hid (And.intro hr3 (hal.grown hg3 (by simp) (fun k hk => by injection hk with hk; omega)))
  obtain ⟨A, hA2⟩ : ∃ A, (p10 i).1 = A := ⟨_, rfl⟩
  obtain ⟨B, hB2⟩ : ∃ B, (p10 i).2 = B := ⟨_, rfl⟩
  have hAl := (HT.out.hi i hi).2
  have hBl := (HT.out.lo i hi).2
  have HI := Lib.hid (show (p + 348).toNat = i by have := HPI.out; omega)
  have HAB := Lib.hid (And.intro hA2 hB2)
  rw [hA2] at HX hAl
  rw [hB2] at HX hBl
  clear hr3 hg3 hal hA2 hB2
  obtain ⟨s, hs⟩ : ∃ s, -(e + lp + 3) = s := ⟨_, rfl⟩
  have HS := Lib.hid hs
  rw [hs] at HX
  clear hs
  go_wp2_with fail
  refine (usc_any mn A B s w.heap.size w3 hmn2 hAl hBl HX.out.1).mono ?_
  rintro en w4 ⟨rfl, k4, rfl⟩
  obtain ⟨u1, hu1⟩ : ∃ u1, uscZ mn A B s = u1 := ⟨_, rfl⟩
  rw [hu1]
  go_wp2_with (first | (go_at_call 141; refine (nudge_any _ _ _).mono ?_; rintro en w5 ⟨rfl, rfl⟩) | (go_at_call 142; refine (ceil_any _ _).mono ?_; rintro en w5 ⟨rfl, rfl⟩))
  refine (usc_any mx A B s w.heap.size (w3.drewN k4) hmx2 hAl hBl HX.out.1).mono ?_
  rintro en w4 ⟨rfl, k5, rfl⟩
  obtain ⟨u2, hu2⟩ : ∃ u2, uscZ mx A B s = u2 := ⟨_, rfl⟩
  rw [hu2]
  obtain ⟨D1, hD1⟩ : ∃ D1, ceilZ (nudgeZ u1 odd) = D1 := ⟨_, rfl⟩
  obtain ⟨D2, hD2⟩ : ∃ D2, floorZ (nudgeZ u2 (-odd)) = D2 := ⟨_, rfl⟩
  have q1 : 0 ≤ D1 ∧ D1 ≤ 4611686018427387904 := by rw [← hD1]; exact quarter _
  have q2 : 0 ≤ D2 ∧ D2 ≤ 4611686018427387904 := by rw [← hD2]; exact quarter _
  obtain ⟨q11, q12⟩ := q1
  obtain ⟨q21, q22⟩ := q2
  have HSF : RowKit.Hid (sfT e p mn mx m odd = sfD D1 D2 (roundZ (uscZ m A B s)) p) := Lib.hid (by
    unfold sfT
    rw [HI.out, HAB.out.1, HAB.out.2, HLP.out, HS.out, hu1, hu2, hD1, hD2])
  rw [hD1]
  have HD2 := Lib.hid hD2
  clear hu1 hu2 hD1 hD2 HI HAB HS HLP
  by_cases c1 : D1 ≤ D2 / 10 * 10
  · have HR : RowKit.Hid (sfT e p mn mx m odd = (D2 / 10, -(p - 1))) := Lib.hid (by rw [HSF.out]; unfold sfD; rw [if_pos c1])
    go_wp2_with (first | (go_at_call 141; refine (nudge_any _ _ _).mono ?_; rintro en w5 ⟨rfl, rfl⟩) | (go_at_call 143; refine (floor_any _ _).mono ?_; rintro en w5 ⟨rfl, rfl⟩; rw [HD2.out]))
    go_ret2
    exact ⟨by rw [HO.out, HR.out]; rfl, HX.out.2.grown (grown_drewN w3 _) HX.out.2.size (fun _ h => by cases h)⟩
  · by_cases c2 : D1 < D2
    · obtain ⟨R, hR⟩ : ∃ R, roundZ (uscZ m A B s) = R := ⟨_, rfl⟩
      have HR : RowKit.Hid (sfT e p mn mx m odd = (R, -p)) := Lib.hid (by rw [HSF.out]; unfold sfD; rw [if_neg c1, if_pos c2, hR])
      go_wp2_with (first | (go_at_call 141; refine (nudge_any _ _ _).mono ?_; rintro en w5 ⟨rfl, rfl⟩) | (go_at_call 143; refine (floor_any _ _).mono ?_; rintro en w5 ⟨rfl, rfl⟩; rw [HD2.out]))
      refine (usc_any m A B s w.heap.size (w3.drewN (k4 + k5)) hm hAl hBl HX.out.1).mono ?_
      rintro en w4 ⟨rfl, k6, rfl⟩
      go_wp2_with (first | (go_at_call 144; refine (round_any _ _).mono ?_; rintro en w5 ⟨rfl, rfl⟩; rw [hR]))
      go_ret2
      exact ⟨by rw [HO.out, HR.out]; rfl, HX.out.2.grown (grown_drewN w3 _) HX.out.2.size (fun _ h => by cases h)⟩
    · have HR : RowKit.Hid (sfT e p mn mx m odd = (D1, -p)) := Lib.hid (by rw [HSF.out]; unfold sfD; rw [if_neg c1, if_neg c2])
      go_wp2_with (first | (go_at_call 141; refine (nudge_any _ _ _).mono ?_; rintro en w5 ⟨rfl, rfl⟩) | (go_at_call 143; refine (floor_any _ _).mono ?_; rintro en w5 ⟨rfl, rfl⟩; rw [HD2.out]))
      go_ret2
      exact ⟨by rw [HO.out, HR.out]; rfl, HX.out.2.grown (grown_drewN w3 _) HX.out.2.size (fun _ h => by cases h)⟩
set_option maxHeartbeats 600000 in
theorem sf_c (m z : Nat) (e : Int) (w : World) (hm : m < 18446744073709551616) (he2 : e ≤ 1100) (ht : PTab w) (hC : ¬ -1085 < e) (hB : ¬ -1085 ≤ e) (hz : -1074 - e = (z : Int)) (hz1 : 12 ≤ z) (hz2 : z ≤ 63) (hA : ((m : Int) == 9223372036854775808) = true ∨ ((m : Int) == 9223372036854775808) = false) :
    Calls Tryz.prog 111 #[.int .u64 (m : Int), .int .i64 e] w fun en w' => en = .returned (.tuple #[.int .u64 (sfE m e).1, .int .i64 (sfE m e).2]) ∧ Below w.heap.size w w' := by
  have HT := Lib.hid ht
  clear ht
  have h1 : 11 + (-1085 - e) = (z : Int) := by omega
  have h2 : e + (z : Int) = -1074 := by omega
  obtain ⟨y, hy⟩ : ∃ y : Nat, (z : Int) - 1 = (y : Int) := ⟨z - 1, by omega⟩
  have hy2 : y ≤ 62 := by omega
  have HL := Lib.hid (fun wx => l10_any (-1074) wx (by omega) (by omega))
  have HO : RowKit.Hid (sfE m e = sfT e (-l10 (-1074)) (IntKind.u64.wrap ((m : Int) - IntKind.u64.wrap (2 ^ y))).toNat (IntKind.u64.wrap ((m : Int) + IntKind.u64.wrap (2 ^ y))).toNat m (bits .and .i64 (wrap64 ((m : Int) / 2 ^ z)) 1)) := Lib.hid (by
    unfold sfE
    rw [if_neg (fun h => hC h.2), if_neg hB, show (-1075 - e).toNat = y by omega, show (-1074 - e).toNat = z by omega])
  have hLb : l10 (-1074) = -324 := by decide
  obtain ⟨L, hL⟩ : ∃ L, l10 (-1074) = L := ⟨_, rfl⟩
  rw [hL] at HL hLb HO
  have hLb1 : -325 ≤ L := by omega
  have hLb2 : L ≤ -323 := by omega
  have he0 : -1137 ≤ e := by omega
  obtain ⟨mn, hmn, hmn2⟩ := wrap_nat ((m : Int) - IntKind.u64.wrap (2 ^ y))
  obtain ⟨mx, hmx, hmx2⟩ := wrap_nat ((m : Int) + IntKind.u64.wrap (2 ^ y))
  obtain ⟨oddN, hodd, hodd1⟩ := and1 (wrap64 ((m : Int) / 2 ^ z))
  rw [hmn, hmx, Int.toNat_natCast, Int.toNat_natCast, hodd] at HO
  have HMM := Lib.hid (And.intro hmn (And.intro hmx hodd))
  clear hL hmn hmx hodd hLb hz
  generalize sfE m e = SF at HO ⊢
  rcases hA with hA | hA
  all_goals
    go_enter Tryz.func111, Tryz.ntmps111
    go_wp2_with (first | (go_at_call 95; (with_reducible refine (HL.out _).mono ?_); rintro en w2 ⟨rfl, rfl⟩))
    rw [HMM.out.1, HMM.out.2.1, HMM.out.2.2]
    obtain ⟨p, hp⟩ : ∃ p, -L = p := ⟨_, rfl⟩
    obtain ⟨odd, ho⟩ : ∃ odd, (oddN : Int) = odd := ⟨_, rfl⟩
    rw [hp, ho] at HO
    rw [hp, ho]
    obtain ⟨i, hi0⟩ : ∃ i : Nat, p + 348 = (i : Int) := ⟨(p + 348).toNat, by omega⟩
    have HPI : RowKit.Hid (p = (i : Int) - 348) := Lib.hid (by omega)
    have hi : i < 696 := by omega
    have hp1 : -345 ≤ p := by omega
    have hp2 : p ≤ 345 := by omega
    have ho1 : 0 ≤ odd := by omega
    have ho2 : odd ≤ 1 := by omega
    clear hp ho hi0 HMM HL hLb1 hLb2 hodd1 h1 h2 hy
    refine (l2_any p _ (by omega) (by omega)).mono ?_
    rintro en w2 ⟨rfl, rfl⟩
    have hlp : -1300 ≤ l2 p ∧ l2 p ≤ 1300 := by unfold l2; omega
    obtain ⟨lp, hlpe⟩ : ∃ lp, l2 p = lp := ⟨_, rfl⟩
    have HLP := Lib.hid hlpe
    rw [hlpe] at hlp ⊢
    clear hlpe
    obtain ⟨lp1, lp2⟩ := hlp
    go_wp2_with fail
    have hbig := HT.out.big
    have hal : Below w.heap.size w (w.alloc (.cells #[.int .u64 0, .int .u64 0, .int .i64 0] 185)) := below_make (World.grownBy_alloc w _ none)
    refine (pre_any w.heap.size i e p lp _ _ _ _ HPI.out hi (by omega) (by omega) (by omega) (by omega) (by omega) (Row.new w #[.int .u64 0, .int .u64 0, .int .i64 0] 185) (HT.out.below hal)).mono ?_
    rintro en w3 ⟨rfl, hr3, hg3⟩
    have HX := Lib.hid (And.intro hr3 (hal.grown hg3 (by simp) (fun k hk => by injection hk with hk; omega)))
    obtain ⟨A, hA2⟩ : ∃ A, (p10 i).1 = A := ⟨_, rfl⟩
    obtain ⟨B, hB2⟩ : ∃ B, (p10 i).2 = B := ⟨_, rfl⟩
    have hAl := (HT.out.hi i hi).2
    have hBl := (HT.out.lo i hi).2
    have HI := Lib.hid (show (p + 348).toNat = i by have := HPI.out; omega)
    have HAB := Lib.hid (And.intro hA2 hB2)
    rw [hA2] at HX hAl
    rw [hB2] at HX hBl
    clear hr3 hg3 hal hA2 hB2
    obtain ⟨s, hs⟩ : ∃ s, -(e + lp + 3) = s := ⟨_, rfl⟩
    have HS := Lib.hid hs
    rw [hs] at HX
    clear hs
    go_wp2_with fail
    refine (usc_any mn A B s w.heap.size w3 hmn2 hAl hBl HX.out.1).mono ?_
    rintro en w4 ⟨rfl, k4, rfl⟩
    obtain ⟨u1, hu1⟩ : ∃ u1, uscZ mn A B s = u1 := ⟨_, rfl⟩
    rw [hu1]
    go_wp2_with (first | (go_at_call 141; refine (nudge_any _ _ _).mono ?_; rintro en w5 ⟨rfl, rfl⟩) | (go_at_call 142; refine (ceil_any _ _).mono ?_; rintro en w5 ⟨rfl, rfl⟩))
    refine (usc_any mx A B s w.heap.size (w3.drewN k4) hmx2 hAl hBl HX.out.1).mono ?_
    rintro en w4 ⟨rfl, k5, rfl⟩
    obtain ⟨u2, hu2⟩ : ∃ u2, uscZ mx A B s = u2 := ⟨_, rfl⟩
    rw [hu2]
    obtain ⟨D1, hD1⟩ : ∃ D1, ceilZ (nudgeZ u1 odd) = D1 := ⟨_, rfl⟩
    obtain ⟨D2, hD2⟩ : ∃ D2, floorZ (nudgeZ u2 (-odd)) = D2 := ⟨_, rfl⟩
    have q1 : 0 ≤ D1 ∧ D1 ≤ 4611686018427387904 := by rw [← hD1]; exact quarter _
    have q2 : 0 ≤ D2 ∧ D2 ≤ 4611686018427387904 := by rw [← hD2]; exact quarter _
    obtain ⟨q11, q12⟩ := q1
    obtain ⟨q21, q22⟩ := q2
    have HSF : RowKit.Hid (sfT e p mn mx m odd = sfD D1 D2 (roundZ (uscZ m A B s)) p) := Lib.hid (by
      unfold sfT
      rw [HI.out, HAB.out.1, HAB.out.2, HLP.out, HS.out, hu1, hu2, hD1, hD2])
    rw [hD1]
    have HD2 := Lib.hid hD2
    clear hu1 hu2 hD1 hD2 HI HAB HS HLP
    by_cases c1 : D1 ≤ D2 / 10 * 10
    · have HR : RowKit.Hid (sfT e p mn mx m odd = (D2 / 10, -(p - 1))) := Lib.hid (by rw [HSF.out]; unfold sfD; rw [if_pos c1])
      go_wp2_with (first | (go_at_call 141; refine (nudge_any _ _ _).mono ?_; rintro en w5 ⟨rfl, rfl⟩) | (go_at_call 143; refine (floor_any _ _).mono ?_; rintro en w5 ⟨rfl, rfl⟩; rw [HD2.out]))
      go_ret2
      exact ⟨by rw [HO.out, HR.out]; rfl, HX.out.2.grown (grown_drewN w3 _) HX.out.2.size (fun _ h => by cases h)⟩
    · by_cases c2 : D1 < D2
      · obtain ⟨R, hR⟩ : ∃ R, roundZ (uscZ m A B s) = R := ⟨_, rfl⟩
        have HR : RowKit.Hid (sfT e p mn mx m odd = (R, -p)) := Lib.hid (by rw [HSF.out]; unfold sfD; rw [if_neg c1, if_pos c2, hR])
        go_wp2_with (first | (go_at_call 141; refine (nudge_any _ _ _).mono ?_; rintro en w5 ⟨rfl, rfl⟩) | (go_at_call 143; refine (floor_any _ _).mono ?_; rintro en w5 ⟨rfl, rfl⟩; rw [HD2.out]))
        refine (usc_any m A B s w.heap.size (w3.drewN (k4 + k5)) hm hAl hBl HX.out.1).mono ?_
        rintro en w4 ⟨rfl, k6, rfl⟩
        go_wp2_with (first | (go_at_call 144; refine (round_any _ _).mono ?_; rintro en w5 ⟨rfl, rfl⟩; rw [hR]))
        go_ret2
        exact ⟨by rw [HO.out, HR.out]; rfl, HX.out.2.grown (grown_drewN w3 _) HX.out.2.size (fun _ h => by cases h)⟩
      · have HR : RowKit.Hid (sfT e p mn mx m odd = (D1, -p)) := Lib.hid (by rw [HSF.out]; unfold sfD; rw [if_neg c1, if_neg c2])
        go_wp2_with (first | (go_at_call 141; refine (nudge_any _ _ _).mono ?_; rintro en w5 ⟨rfl, rfl⟩) | (go_at_call 143; refine (floor_any _ _).mono ?_; rintro en w5 ⟨rfl, rfl⟩; rw [HD2.out]))
        go_ret2
        exact ⟨by rw [HO.out, HR.out]; rfl, HX.out.2.grown (grown_drewN w3 _) HX.out.2.size (fun _ h => by cases h)⟩
/-- shortFloat, of whatever a float gives. -/
theorem sf_all (m : Nat) (e : Int) (w : World) (hm : m < 18446744073709551616) (he1 : -1137 ≤ e) (he2 : e ≤ 1100) (ht : PTab w) :
    Calls Tryz.prog 111 #[.int .u64 (m : Int), .int .i64 e] w fun en w' => en = .returned (.tuple #[.int .u64 (sfE m e).1, .int .i64 (sfE m e).2]) ∧ Below w.heap.size w w' := by
  by_cases hB : -1085 ≤ e
  · cases hA : ((m : Int) == 9223372036854775808)
    · exact sf_b m e w hm he1 he2 ht hA hB
    · by_cases hC : -1085 < e
      · exact sf_a m e w hm he1 he2 ht hA hC
      · exact sf_b2 m e w hm he1 he2 ht hA hC hB
  · exact sf_c m (-1074 - e).toNat e w hm he2 ht (by omega) hB (by omega) (by omega) (by omega) (by cases hA : ((m : Int) == 9223372036854775808); exact .inr rfl; exact .inl rfl)
theorem sfE_w (m : Nat) (e : Int) : W64 (sfE m e).1 := by
  have hq : ∀ d1 d2 mid p, W64 d1 → 0 ≤ d2 → d2 ≤ 4611686018427387904 → W64 mid → W64 (sfD d1 d2 mid p).1 := by
    intro d1 d2 mid p h1 h2 h3 h4
    unfold sfD
    split
    · unfold W64; dsimp only; omega
    · split
      · exact h4
      · exact h1
  have hT : ∀ e p mn mx m odd, W64 (sfT e p mn mx m odd).1 := by
    intro e p mn mx m odd
    unfold sfT
    refine hq _ _ _ _ ?_ (quarter _).1 (quarter _).2 ?_
    · have := quarter (nudgeZ (uscZ mn (p10 (p + 348).toNat).1 (p10 (p + 348).toNat).2 (-(e + l2 p + 3))) odd + 3)
      unfold W64 ceilZ; omega
    · have := quarter (IntKind.u64.wrap (uscZ m (p10 (p + 348).toNat).1 (p10 (p + 348).toNat).2 (-(e + l2 p + 3)) + 1) + bits .and .u64 (uscZ m (p10 (p + 348).toNat).1 (p10 (p + 348).toNat).2 (-(e + l2 p + 3)) / 4) 1)
      unfold W64 roundZ; omega
  unfold sfE
  split
  · exact hT _ _ _ _ _ _
  · split <;> exact hT _ _ _ _ _ _
end Go.Proofs.YtfebfkbdbncihaaGreatDoor
