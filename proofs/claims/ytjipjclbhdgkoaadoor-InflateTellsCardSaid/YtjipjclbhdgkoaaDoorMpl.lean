/- Contract of plain: a block of kind 0. -/
import Derived.Test.YtjipjclbhdgkoaaDoorGroupF
import Derived.Test.YtjipjclbhdgkoaaDoorGroupB
import Derived.Test.YtjipjclbhdgkoaaDoorGroupE
namespace Go.Proofs.YtjipjclbhdgkoaaDoor
open Go.RowKit

variable {g r H : Nat} {A : Option Addr} {n c : Nat} {l : List UInt8} {lim : Nat} {v : Value} {s : Sx}
theorem xor_low (x : Nat) (h : x < 65536) : x ^^^ 65535 = 65535 - x := by
  apply Nat.eq_of_testBit_eq
  intro i
  rw [show 65535 - x = 2 ^ 16 - (x + 1) by omega, Nat.testBit_two_pow_sub_succ (show x < 2 ^ 16 by omega), Nat.testBit_xor, show 65535 = 2 ^ 16 - 1 by decide, Nat.testBit_two_pow_sub_one]
  by_cases hi : i < 16
  · simp [hi]
  · rw [Nat.testBit_lt_two_pow (Nat.lt_of_lt_of_le (show x < 2 ^ 16 by omega) (Nat.pow_le_pow_right (by decide) (by omega)))]
    simp [hi]
theorem i64_xor_nat (a b : Nat) (ha : a < 4611686018427387904) (hb : b < 4611686018427387904) : bits .xor .i64 (a : Int) (b : Int) = ((a ^^^ b : Nat) : Int) := by
  have hx : a ^^^ b < 2 ^ 62 := Nat.xor_lt_two_pow (by omega) (by omega)
  show IntKind.i64.wrap ((BitVec.ofInt 64 (a : Int) ^^^ BitVec.ofInt 64 (b : Int)).toNat : Int) = _
  rw [BitVec.toNat_xor, ofInt_i64 a (by omega), ofInt_i64 b (by omega)]
  simp [IntKind.wrap, IntKind.bits, IntKind.signed]
  omega
theorem xor64 (x : Nat) (h : x < 65536) : bits .xor .i64 (x : Int) 65535 = 65535 - (x : Int) := by
  have h1 := i64_xor_nat x 65535 (by omega) (by omega)
  rw [xor_low x h] at h1
  rw [show (65535 : Int) = ((65535 : Nat) : Int) from rfl, h1]
  omega
theorem room_ok {k : Nat} {L : List UInt8} {u : Unit} {s' : Sx} (h : roomX k L lim s = .ok (u, s')) : s' = s ∧ s.out.length + k ≤ lim := by
  unfold roomX at h
  split at h
  · cases h
  · injection h with h; injection h with _ h; exact ⟨h.symm, by omega⟩
theorem room_err {k j : Nat} {L : List UInt8} (h : roomX k L lim s = .error j) : j = 3 ∧ lim < s.out.length + k := by
  unfold roomX at h
  split at h
  · injection h with h; exact ⟨h.symm, by assumption⟩
  · cases h
theorem Own.capz {w : World} {B : Nat} {A : Option Addr} {n c : Nat} {l : List UInt8} (h : Own w B (.slice A n c) l) (hA : A = none) : c = 0 := by
  rcases h.2 with ⟨hv, _⟩ | ⟨g, cap, cur, hv, _⟩
  · injection hv
  · rw [hA] at hv; injection hv with h1; cases h1

set_option maxHeartbeats 1000000 in
set_option maxRecDepth 20000 in
theorem plain_any (w : World) (hm : MS w g r H A n c l lim v s) :
    Calls Tryd.prog 38 #[.pointer (some ⟨g, 0, none⟩)] w (Out w g r H A n c l lim v (storedX (bitsL l) lim s) unit) := by
  have c0 := hm.cell0
  have HM := Lib.hid hm
  obtain ⟨X, HX⟩ : ∃ X, RowKit.Hid (storedX (bitsL l) lim s = X) := ⟨_, Lib.hid rfl⟩
  rw [HX.out]
  clear hm
  go_enter Tryd.func38, Tryd.ntmps38
  go_wp2_with fail
  refine (ralign_any r w HM.out.ra (by simp) HM.out.nn).mono ?_
  rintro e w1 ⟨rfl, hR1, hg1⟩
  rw [show s.pos + gapR s.pos = (s.pos + 7) / 8 * 8 by unfold gapR; omega] at hR1
  have HM1 := Lib.hid (HM.out.reader hR1 hg1 (by omega))
  have HG1 := Lib.hid (Moves.grown (g := g) v hg1 (.inr (.inr (.inl rfl))))
  have HX1 := Lib.hid (bind_go (f := alignX) rfl HX.out)
  obtain ⟨s1, hs1⟩ : ∃ s1 : Sx, (⟨(s.pos + 7) / 8 * 8, s.out, s.steps⟩ : Sx) = s1 := ⟨_, rfl⟩
  have hp1 : s1.pos = (s.pos + 7) / 8 * 8 := by rw [← hs1]
  have HP1 := Lib.hid hp1
  rw [hs1] at HM1 HX1
  generalize gapR s.pos = gap
  clear hR1 hg1 hp1 hs1 HX c0
  go_wp2_with fail
  refine (mnum_any 16 (by omega) w1 HM1.out).mono ?_
  rintro e w2 (⟨a, s2, v2, hx2, hm2, hg2, he2⟩ | ⟨k2, b2, v2, hx2, rfl, hb2, hc2, hg2⟩)
  rotate_left
  · exact ⟨rfl, Out.passed HG1.out (bind_err hx2 HX1.out) hb2 hc2 hg2⟩
  obtain rfl := he2
  have ha : a < 65536 := num_lt hx2
  have HM2 := Lib.hid hm2
  have HG2 := Lib.hid (HG1.out.trans hg2)
  have HX2 := Lib.hid (bind_go hx2 HX1.out)
  have HP2 : RowKit.Hid (s2.pos = (s.pos + 7) / 8 * 8 + 16) := Lib.hid (by rw [(num_ok hx2).1, HP1.out])
  clear hm2 hg2 hx2 HM1 HG1 HX1 HP1
  go_wp2_with fail
  refine (mnum_any 16 (by omega) w2 HM2.out).mono ?_
  rintro e w3 (⟨t, s3, v3, hx3, hm3, hg3, he3⟩ | ⟨k2, b2, v3, hx3, rfl, hb2, hc2, hg3⟩)
  rotate_left
  · exact ⟨rfl, Out.passed HG2.out (bind_err hx3 HX2.out) hb2 hc2 hg3⟩
  obtain rfl := he3
  have ht : t < 65536 := num_lt hx3
  have HM3 := Lib.hid hm3
  have HG3 := Lib.hid (HG2.out.trans hg3)
  have hX3 := bind_go hx3 HX2.out
  have HP3 : RowKit.Hid (s3.pos = (s.pos + 7) / 8 * 8 + 32) := Lib.hid (by rw [(num_ok hx3).1, HP2.out])
  clear hm3 hg3 hx3 HM2 HG2 HX2 HP2
  have ex := xor64 a ha
  by_cases hsum : a + t = 65535
  rotate_left
  · have HX3 : RowKit.Hid (X = .error 2) := Lib.hid (by rw [← hX3, if_pos hsum]; rfl)
    have hd : ((t : Int) == 65535 - (a : Int)) = false := by rw [beq_eq_false_iff_ne]; omega
    clear hX3 hsum
    go_wp2_with fail
    refine (must_no w3 _ rfl).mono ?_
    rintro e w4 ⟨rfl, rfl⟩
    exact ⟨rfl, Out.thrown HX3.out HG3.out 2 rfl⟩
  have hd : ((t : Int) == 65535 - (a : Int)) = true := by rw [beq_iff_eq]; omega
  rw [if_neg (by omega)] at hX3
  have HX3 := Lib.hid hX3
  clear hX3 hsum
  go_wp2_with fail
  refine (must_ok w3 _ rfl).mono ?_
  rintro e w4 ⟨rfl, rfl⟩
  clear ex hd ht
  go_wp2_with fail
  refine (room_any a (by omega) w3 HM3.out).mono ?_
  rintro e w4 (⟨u4, s4, v4, hx4, hm4, hg4, he4⟩ | ⟨k2, b2, v4, hx4, rfl, hb2, hc2, hg4⟩)
  rotate_left
  · refine ⟨rfl, Out.passed HG3.out ?_ hb2 hc2 hg4⟩
    rw [← HX3.out, (room_err hx4).1]
    unfold storeX
    rw [if_pos (room_err hx4).2]
  obtain rfl := he4
  obtain ⟨rfl, hroom⟩ := room_ok hx4
  have c04 := hm4.cell0
  have HM4 := Lib.hid hm4
  have HG4 := Lib.hid (HG3.out.trans hg4)
  have HRM := Lib.hid hroom
  have HSP := Lib.hid hm4.sp
  have hX4 := HX3.out
  unfold storeX at hX4
  rw [if_neg (by omega)] at hX4
  clear hm4 hg4 hx4 HM3 HG3 HX3 hroom
  go_wp2_with fail
  refine (rbytes_any r (a : Int) w4 HM4.out.ra (by simp) HM4.out.nn).mono ?_
  rintro e w5 ⟨u, rfl, hu, hR5, hg5⟩
  have h8 : ¬ s4.pos % 8 ≠ 0 := by rw [HP3.out]; omega
  have hlen := HM4.out.bits
  have hll := HM4.out.len
  have hle := HM4.out.le
  by_cases hend : (8 * n - s4.pos) / 8 < a
  · have he : yE n s4.pos (a : Int) = 10 := y_end (by omega) h8 (by simpa using hend)
    have HX5 : RowKit.Hid (X = .error 10) := Lib.hid (by rw [← hX4, if_pos (by omega)])
    rw [he, show errV 10 = .iface 39 (.int .i64 10) from rfl]
    have HG5 := Lib.hid (HG4.out.trans (Moves.grown (g := g) v4 hg5 (.inr (.inr (.inl rfl)))))
    clear hR5 hg5 hu hX4 he hend h8 hlen hll hle HM4 c04
    go_wp2_with fail
    refine (pass_errno 10 w5).mono ?_
    rintro e w6 ⟨rfl, rfl⟩
    exact ⟨rfl, Out.thrown HX5.out HG5.out 10 rfl⟩
  have he : yE n s4.pos (a : Int) = 0 := y_ok (by omega) h8 (by simpa using hend)
  have hP : yP n s4.pos (a : Int) = s4.pos + 8 * a := by unfold yP; rw [he]; simp
  have hB : yB l s4.pos (a : Int) = bytesB ((bitsL l).drop s4.pos) a := by
    unfold yB
    rw [hll, he, if_pos rfl]
    obtain ⟨q, hq⟩ : ∃ q, s4.pos = 8 * q := ⟨s4.pos / 8, by omega⟩
    rw [hq, bitsL_drop, bytesB_bits a _ (by rw [List.length_drop, hll]; omega)]
    congr 2
    omega
  rw [if_neg (by omega)] at hX4
  have HX5 := Lib.hid hX4
  rw [hB] at hu
  rw [hP] at hR5
  have hbl : (bytesB ((bitsL l).drop s4.pos) a).length = a := bytesB_length _ _
  generalize bytesB ((bitsL l).drop s4.pos) a = bs at hu HX5 hbl
  obtain ⟨Au, cu, rfl⟩ := hu.slice
  rw [hbl] at hu ⊢
  have hcap := hu.capz
  have HRd := Lib.hid hu.rd.2
  have hM5 := HM4.out.reader hR5 hg5 (by omega)
  have HG5 := Lib.hid (HG4.out.trans (Moves.grown (g := g) v4 hg5 (.inr (.inr (.inl rfl)))))
  have c51 := hM5.cell1
  have HM5 := Lib.hid hM5
  have HCP := Lib.hid hcap
  have HBL := Lib.hid hbl
  rw [he, show errV 0 = .nilIface from rfl]
  clear hM5 hcap hbl hu hR5 hg5 hX4 hB hP he hend h8 hlen hll hle HM4 HG4 c04
  go_wp2_with fail
  refine (pass_nil w5).mono ?_
  rintro e w6 ⟨rfl, rfl⟩
  have HBS : RowKit.Hid (g + 1 ≤ w5.heap.size) := Lib.hid HM5.out.lt
  have HOL : RowKit.Hid (s4.out.length + a ≤ 4000000) := Lib.hid (by have := HRM.out; have := HM5.out.lm; omega)
  go_wp2_with (with_reducible refine cat8b w5 rfl _ _ rfl (g + 1) w5.heap.size v4 s4.out bs Au a cu rfl rfl HM5.out.own HRd.out HCP.out HBS.out HOL.out ?_)
  intro v6 w6 ho6 hg6 hf6
  obtain ⟨A6, c6, rfl⟩ := ho6.slice
  obtain ⟨q6, hq6⟩ : ∃ q6, (s4.out ++ bs).length = q6 := ⟨_, rfl⟩
  rw [hq6] at ho6 hf6 ⊢
  clear hq6
  obtain ⟨fl, fd, hrow, hfx⟩ := HM5.out.fx
  have hr6 := hrow.grown hg6 (HM5.out.ne (Nat.le_refl _))
  have c61 : w6.cell? ⟨g, 1, none⟩ = some v4 := hr6.cell 1
  have f61 := hr6.thawed 1
  obtain ⟨hM7, hG7⟩ := HM5.out.text hg6 ho6 hf6 (by rw [List.length_append, HBL.out]; exact HRM.out)
  have HG7 := Lib.hid (HG5.out.trans hG7)
  have c73 := hM7.cell3
  have f73 := hM7.thawed 3
  have HM7 := Lib.hid hM7
  have hsp := hM7.sp
  have hle := hM7.le
  have hnn := hM7.nn
  have hsp4 : s4.steps ≤ s4.pos + 8 * a := hsp
  have hle4 : s4.pos + 8 * a ≤ 8 * n := hle
  clear hM7 hG7 hrow hfx hr6 ho6 hg6 hf6 hsp hle
  go_wp2_with fail
  go_end0
  have hS : s4.steps ≤ s4.pos := HSP.out
  obtain ⟨hM8, hG8⟩ := HM7.out.steps a (by show s4.steps + a ≤ s4.pos + 8 * a; omega) ((s4.steps : Int) + (a : Int)) (by simp)
  exact .inl ⟨(), _, _, HX5.out.symm, hM8, HG7.out.trans hG8, rfl⟩
end Go.Proofs.YtjipjclbhdgkoaaDoor
