/- Contract of fmtEFG at 1 figures. -/
import Derived.Test.YtfebfkbdbncihaaGreatDoorNtf
namespace Go.Proofs.YtfebfkbdbncihaaGreatDoor
set_option maxRecDepth 100000
open Go.RowKit

set_option maxHeartbeats 2000000 in
theorem efg_1 (neg : Bool) (A : Option Addr) (c N b : Nat) (dp : Int) (D : List UInt8) (w : World) (h : EF w w N b (.slice A 0 c) [] D) (hD : D.length ≤ 20) (hnd : 1 ≤ D.length) (hdp1 : -900 ≤ dp) (hdp2 : dp ≤ 900) :
    Calls Tryz.prog 104 #[.slice A 0 c, .bool neg, .slice (some ⟨b, 0, none⟩) 32 32, .int .i64 dp, .int .i64 (1), .int .i64 (0), .int .u8 101, .bool true] w fun e w' =>
      ∃ v', e = .returned v' ∧ EF w w' N b v' (efL neg D (1) dp) D := by
  have H0 := Lib.hid h
  clear h
  go_enter Tryz.func104, Tryz.ntmps104
  go_upto_if 78 with fail
  go_cut [0] from 31 (fun v W => ∃ A n c, v = .slice A n c ∧ RowKit.Hid (n ≤ 1 ∧ EF w W N b v (sgL neg) D))
  case first =>
    cases neg
    · go_wp2_with fail
      go_meet
      case rel => exact ⟨A, 0, c, rfl, Lib.hid ⟨by decide, H0.out⟩⟩
    · go_wp2_with (at_builtin; refine push8 _ rfl (.tmp 79) (.tmp 80) rfl N (.slice A 0 c) [] [45] _ 1 rfl rfl H0.out.own rfl rfl H0.out.len (by decide) ?_)
      intro v1 W1 ho hg hf
      have H1 := Lib.hid (H0.out.push ho hg hf)
      obtain ⟨A1, c1, rfl⟩ := ho.slice
      go_wp2_with fail
      go_meet
      case rel => exact ⟨A1, _, c1, rfl, Lib.hid ⟨by decide, H1.out⟩⟩
  case rest =>
    obtain ⟨A1, n1, c1, rfl, H1⟩ := hcut
    clear H0
    have hsl := sgL_le neg
    have hn1 := H1.out.1
    obtain ⟨sl, hsl2⟩ : ∃ sl, sgL neg = sl := ⟨_, rfl⟩
    have HSL := Lib.hid hsl2
    rw [hsl2] at H1 hsl
    clear hsl2
    have hlen1 : sl.length ≤ 1 := hsl
    obtain ⟨L1, hL⟩ : ∃ L1, sl = L1 := ⟨_, rfl⟩
    rw [hL] at H1 hlen1
    have HL1 := Lib.hid hL
    have H1 := Lib.hid H1.out.2
    clear hL hsl hn1
    obtain ⟨d0, hd0⟩ : ∃ d0, D[0]? = some d0 := ⟨D[0]'(by omega), List.getElem?_eq_getElem (by omega)⟩
    have HM : RowKit.Hid (mantL D 1 = [d0]) := Lib.hid (by
      cases D with
      | nil => cases hd0
      | cons x t => injection hd0 with hd0; subst hd0; rfl)
    have hc0 := H1.out.dg 0 d0 hd0
    clear hd0
    go_wp2_with (at_builtin; refine push8 _ rfl (.tmp 87) (.tmp 89) rfl N (.slice A1 n1 c1) L1 [d0] _ 1 rfl rfl H1.out.own rfl rfl H1.out.len (by omega) ?_)
    intro v2 W2 ho hg hf
    have H2 := Lib.hid (H1.out.push ho hg hf)
    obtain ⟨A2, n2, c2, rfl⟩ := H2.out.slice
    obtain ⟨L2, hL⟩ : ∃ L2, L1 ++ [d0] = L2 := ⟨_, rfl⟩
    rw [hL] at H2
    have hlen2 : L2.length ≤ 2 := by rw [← hL, List.length_append]; simp; omega
    have HL2 := Lib.hid hL
    clear hL ho hg hf H1 hlen1
    go_wp2_with (at_builtin; refine push8 _ rfl (.tmp 120) (.tmp 122) rfl N (.slice A2 n2 c2) L2 [101] _ 1 rfl rfl H2.out.own rfl rfl H2.out.len (by omega) ?_)
    intro v3 W3 ho hg hf
    have H3 := Lib.hid (H2.out.push ho hg hf)
    obtain ⟨A3, n3, c3, rfl⟩ := H3.out.slice
    obtain ⟨L3, hL⟩ : ∃ L3, L2 ++ [101] = L3 := ⟨_, rfl⟩
    rw [hL] at H3
    have hlen3 : L3.length ≤ 23 := by rw [← hL, List.length_append]; simp; omega
    have HL3 := Lib.hid hL
    clear hL ho hg hf H2 hlen2
    have HE : RowKit.Hid (expN dp 1 = (dp - 1)) := Lib.hid (by unfold expN; first | rfl | (rw [if_neg (by omega)]))
    go_upto_if 129 with fail
    go_cut [19, 22] from 31 (fun ch x W => W = W3 ∧ ∃ (X : Nat) (sg : UInt8), x = .int .i64 (X : Int) ∧ ch = .int .u8 (sg.toNat : Int) ∧ X ≤ 990 ∧ RowKit.Hid (X = (dp - 1).natAbs ∧ sg = if (dp - 1) < 0 then 45 else 43))
    case first =>
      by_cases hE : dp - 1 < 0
      · go_wp2_with fail
        go_meet
        case rel => exact ⟨rfl, (dp - 1).natAbs, 45, by congr 1; omega, rfl, by omega, Lib.hid ⟨rfl, by rw [if_pos hE]⟩⟩
      · go_wp2_with fail
        go_meet
        case rel => exact ⟨rfl, (dp - 1).natAbs, 43, by congr 1; omega, rfl, by omega, Lib.hid ⟨rfl, by rw [if_neg (by omega)]⟩⟩
    case rest =>
      obtain ⟨rfl, X, sg, rfl, rfl, hX, HX⟩ := hcut
      have HEF : RowKit.Hid (∀ xs, xs = expL X → L3 ++ [sg] ++ xs = efL neg D 1 dp) := Lib.hid (by
        rintro xs rfl
        unfold efL
        rw [HM.out, HSL.out, HE.out, ← HX.out.1, ← HX.out.2, ← HL3.out, ← HL2.out, HL1.out])
      go_wp2_with (at_builtin; refine push8 _ rfl (.tmp 132) (.tmp 134) rfl N (.slice A3 n3 c3) L3 [sg] _ 1 rfl rfl H3.out.own rfl rfl H3.out.len (by omega) ?_)
      intro v4 W4 ho hg hf
      have H4 := Lib.hid (H3.out.push ho hg hf)
      obtain ⟨A4, n4, c4, rfl⟩ := H4.out.slice
      obtain ⟨L4, hL⟩ : ∃ L4, L3 ++ [sg] = L4 := ⟨_, rfl⟩
      rw [hL] at H4
      have hlen4 : L4.length ≤ 24 := by rw [← hL, List.length_append]; simp; omega
      have HL4 := Lib.hid hL
      clear hL ho hg hf H3 hlen3
      rw [show L3 ++ [sg] = L4 from HL4.out] at HEF
      by_cases h10 : X < 10
      · obtain ⟨u1, hu1⟩ : ∃ u1 : UInt8, (u1.toNat : Int) = (X : Int) + 48 := ⟨UInt8.ofNat (48 + X), by rw [ofNat_val (48 + X) (by omega)]; omega⟩
        have HU := Lib.hid hu1
        have HQ := Lib.hid (HEF.out [48, u1] (by
          unfold expL; rw [if_pos h10, show u1 = UInt8.ofNat (48 + X) from UInt8.toNat_inj.1 (by rw [ofNat_val (48 + X) (by omega)]; omega)]))
        clear hu1
        go_wp2_with (at_builtin; refine push8 _ rfl (.tmp 155) (.tmp 159) rfl N (.slice A4 n4 c4) L4 [48, u1] _ 2 rfl rfl H4.out.own (by simp [us, HU.out]) rfl H4.out.len (by omega) ?_)
        intro v5 W5 ho hg hf
        have H5 := Lib.hid (H4.out.push ho hg hf)
        rw [HQ.out] at H5
        go_wp2_with fail
        go_ret
        exact ⟨_, rfl, H5.out⟩
      · by_cases h100 : X < 100
        · obtain ⟨u1, hu1⟩ : ∃ u1 : UInt8, (u1.toNat : Int) = (X : Int) / 10 + 48 := ⟨UInt8.ofNat (48 + X / 10), by rw [ofNat_val (48 + X / 10) (by omega)]; omega⟩
          obtain ⟨u2, hu2⟩ : ∃ u2 : UInt8, (u2.toNat : Int) = (X : Int) % 10 + 48 := ⟨UInt8.ofNat (48 + X % 10), by rw [ofNat_val (48 + X % 10) (by omega)]; omega⟩
          have HU := Lib.hid (And.intro hu1 hu2)
          have HQ := Lib.hid (HEF.out [u1, u2] (by
            unfold expL; rw [if_neg h10, if_pos h100, show u1 = UInt8.ofNat (48 + X / 10) from UInt8.toNat_inj.1 (by rw [ofNat_val (48 + X / 10) (by omega)]; omega), show u2 = UInt8.ofNat (48 + X % 10) from UInt8.toNat_inj.1 (by rw [ofNat_val (48 + X % 10) (by omega)]; omega)]))
          clear hu1 hu2
          go_wp2_with (at_builtin; refine push8 _ rfl (.tmp 164) (.tmp 173) rfl N (.slice A4 n4 c4) L4 [u1, u2] _ 2 rfl rfl H4.out.own (by simp [us, HU.out.1, HU.out.2]) rfl H4.out.len (by omega) ?_)
          intro v5 W5 ho hg hf
          have H5 := Lib.hid (H4.out.push ho hg hf)
          rw [HQ.out] at H5
          go_wp2_with fail
          go_ret
          exact ⟨_, rfl, H5.out⟩
        · obtain ⟨u1, hu1⟩ : ∃ u1 : UInt8, (u1.toNat : Int) = (X : Int) / 100 + 48 := ⟨UInt8.ofNat (48 + X / 100), by rw [ofNat_val (48 + X / 100) (by omega)]; omega⟩
          obtain ⟨u2, hu2⟩ : ∃ u2 : UInt8, (u2.toNat : Int) = (X : Int) / 10 % 10 + 48 := ⟨UInt8.ofNat (48 + X / 10 % 10), by rw [ofNat_val (48 + X / 10 % 10) (by omega)]; omega⟩
          obtain ⟨u3, hu3⟩ : ∃ u3 : UInt8, (u3.toNat : Int) = (X : Int) % 10 + 48 := ⟨UInt8.ofNat (48 + X % 10), by rw [ofNat_val (48 + X % 10) (by omega)]; omega⟩
          have HU := Lib.hid (And.intro hu1 (And.intro hu2 hu3))
          have HQ := Lib.hid (HEF.out [u1, u2, u3] (by
            unfold expL; rw [if_neg h10, if_neg h100, show u1 = UInt8.ofNat (48 + X / 100) from UInt8.toNat_inj.1 (by rw [ofNat_val (48 + X / 100) (by omega)]; omega), show u2 = UInt8.ofNat (48 + X / 10 % 10) from UInt8.toNat_inj.1 (by rw [ofNat_val (48 + X / 10 % 10) (by omega)]; omega), show u3 = UInt8.ofNat (48 + X % 10) from UInt8.toNat_inj.1 (by rw [ofNat_val (48 + X % 10) (by omega)]; omega)]))
          clear hu1 hu2 hu3
          go_wp2_with (at_builtin; refine push8 _ rfl (.tmp 136) (.tmp 150) rfl N (.slice A4 n4 c4) L4 [u1, u2, u3] _ 3 rfl rfl H4.out.own (by simp [us, HU.out.1, HU.out.2.1, HU.out.2.2]) rfl H4.out.len (by omega) ?_)
          intro v5 W5 ho hg hf
          have H5 := Lib.hid (H4.out.push ho hg hf)
          rw [HQ.out] at H5
          go_wp2_with fail
          go_ret
          exact ⟨_, rfl, H5.out⟩
end Go.Proofs.YtfebfkbdbncihaaGreatDoor
