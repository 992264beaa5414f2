/- The law GzipPacks. -/
import Derived.Test.YtpnnlhegncbfaaaDoorGroupX
import Derived.Test.YtpnnlhegncbfaaaDoorGroupY
import Derived.Test.YtpnnlhegncbfaaaDoorRfi
import Derived.Test.YtpnnlhegncbfaaaDoorCre
import Derived.Test.YtpnnlhegncbfaaaDoorDoc
namespace Go.Proofs.YtpnnlhegncbfaaaDoor
set_option maxRecDepth 20000
open Go.RowKit

theorem fixCG : FixC := fun A n c l w hr hn => rfix_any A n c l w hr hn
theorem known_gz : gzP [] 1 = [31, 139, 8, 0, 0, 0, 0, 0, 0, 255, 3, 0, 0, 0, 0, 0, 0, 0, 0, 0] := by decide +kernel
set_option maxHeartbeats 1000000 in
theorem alive_gz (w : World) (ht : Tabs w) : Calls Tryd.prog 12 #[] w fun e w' => e = .returned (.bool true) ∧ Below w.heap.size w w' := by
  have HP := Lib.hid (gpack_any none 0 0 [] 1 w ⟨rfl, fun h => absurd h (by decide)⟩ (fun _ => rfl) (by decide) (Nat.le_refl _) (by decide) ht)
  rw [known_gz] at HP
  clear ht
  go_enter Tryd.func12, Tryd.ntmps12
  go_wp2_with fail
  refine HP.out.mono ?_
  rintro e w1 ⟨v, rfl, ho, hb⟩
  obtain ⟨A1, c1, hv⟩ := ho.slice
  have hv : v = .slice A1 20 c1 := hv
  subst hv
  have HI := Lib.hid (gis_yes A1 20 c1 _ w1 ho.rd.2 (own_le ho) rfl)
  obtain ⟨b, o, hA, _, hc⟩ := ho.rd.2.2 (by decide)
  subst hA
  have c9 : w1.cell? ⟨b, o + 9, none⟩ = some (.int .u8 255) := hc 9 _ rfl
  have c10 : w1.cell? ⟨b, o + 10, none⟩ = some (.int .u8 3) := hc 10 _ rfl
  have HB := Lib.hid hb
  clear ho hb hc HP
  go_wp2_with fail
  refine HI.out.mono ?_
  rintro e wz ⟨rfl, rfl⟩
  go_wp2_with fail
  go_ret
  exact ⟨rfl, HB.out⟩
set_option maxHeartbeats 1000000 in
theorem four_any4 (x : Nat) (w : World) (hx : x < 4294967296) :
    Calls Tryd.prog 31 #[.int .u32 (x : Int)] w fun e w' => ∃ A c, e = .returned (.slice A 4 c) ∧ Rd w' w'.heap.size A 4 (us (fourB x)) ∧ (A = none → c = 0) ∧ w.grownBy w' none := by
  obtain ⟨u0, h0, e0⟩ := byte_at x
  obtain ⟨u1, h1, e1⟩ : ∃ u : UInt8, UInt8.ofNat (x / 256 % 256) = u ∧ (x : Int) / 256 % 256 = (u.toNat : Int) := ⟨_, rfl, by rw [UInt8.toNat_ofNat']; omega⟩
  obtain ⟨u2, h2, e2⟩ : ∃ u : UInt8, UInt8.ofNat (x / 65536 % 256) = u ∧ (x : Int) / 65536 % 256 = (u.toNat : Int) := ⟨_, rfl, by rw [UInt8.toNat_ofNat']; omega⟩
  obtain ⟨u3, h3, e3⟩ : ∃ u : UInt8, UInt8.ofNat (x / 16777216 % 256) = u ∧ (x : Int) / 16777216 = (u.toNat : Int) := ⟨_, rfl, by rw [UInt8.toNat_ofNat']; omega⟩
  have HF : RowKit.Hid (fourB x = [u0, u1, u2, u3]) := Lib.hid (by unfold fourB; rw [h0, h1, h2, h3])
  clear h0 h1 h2 h3
  go_enter Tryd.func31, Tryd.ntmps31
  go_wp2_with fail
  go_ret
  have ho := Own.lit w #[.int .u8 (u0.toNat : Int), .int .u8 (u1.toNat : Int), .int .u8 (u2.toNat : Int), .int .u8 (u3.toNat : Int)] [u0, u1, u2, u3] 4 rfl rfl (by decide)
  exact ⟨_, _, rfl, by rw [HF.out]; exact ho.rd.2, (fun h => by cases h), World.grownBy_alloc w _ none⟩
set_option maxHeartbeats 1000000 in
theorem rgpack_range (A : Option Addr) (n c : Nat) (z : Int) (w : World) (hz : z < 0 ∨ 2 < z) :
    Calls Tryd.prog 14 #[.slice A n c, .int .i64 z] w fun e w' => e = .returned (.tuple #[.slice none 0 0, .int .i64 1]) ∧ w' = w := by
  have HP := Lib.hid (rdeflate_range A n c z w hz)
  clear hz
  go_enter Tryd.func14, Tryd.ntmps14
  go_wp2_with fail
  refine HP.out.mono ?_
  rintro e w1 ⟨rfl, rfl⟩
  clear HP
  go_wp2_with fail
  go_ret2
  exact ⟨rfl, rfl⟩
set_option maxHeartbeats 4000000 in
theorem rgpack_any (A : Option Addr) (n c : Nat) (l : List UInt8) (z : Int) (w : World) (hr : Rd w w.heap.size A n (us l)) (hA : A = none → c = 0) (hn : n ≤ 1000) (hnc : n ≤ c) (hz : 0 ≤ z ∧ z ≤ 2) :
    Calls Tryd.prog 14 #[.slice A n c, .int .i64 z] w fun e w' => ∃ v, e = .returned (.tuple #[v, .int .i64 0]) ∧ Own w' w.heap.size v (gzP l z) ∧ Below w.heap.size w w' := by
  have HR := Lib.hid hr
  have HLN : RowKit.Hid (l.length = n) := Lib.hid (by have := hr.1; rwa [us_length] at this)
  have HDF := Lib.hid (rdeflate_any fixCG A n c l z w hr hA hn hnc hz)
  have HPL : RowKit.Hid ((packT l z).length ≤ 310000) := Lib.hid (by
    have h1 : l.length ≤ 30000 := by have := HLN.out; omega
    have h2 : (plainT l).length = l.length + 5 := by simp [plainT]
    have h3 : (tokT l).length ≤ 310000 := by
      have g1 := flat_length (toksT l)
      have g2 : (tokT l).length = ((fixedM l).length + 7) / 8 := textB_length _
      have g3 := toks_len l l.length 0
      have g4 : (bitsO fixA (256 : Nat)).length ≤ 15 := by rw [bitsO_length]; exact lenI_bound fix_low.1 _
      have g5 : (fixedM l).length = 3 + ((toksT l).flatMap tokB).length + (bitsO fixA (256 : Nat)).length := by
        unfold fixedM
        simp only [List.length_append, List.length_cons, List.length_nil]
      unfold toksT at g1 g5
      omega
    unfold packT
    split
    · omega
    · split
      · omega
      · split <;> omega)
  obtain ⟨P, HP⟩ : ∃ P, RowKit.Hid (packT l z = P) := ⟨_, Lib.hid rfl⟩
  rw [HP.out] at HDF HPL
  have HG : RowKit.Hid (gzP l z = headB ++ P ++ fourB (addP 0 l).toNat ++ fourB n) := Lib.hid (by unfold gzP; rw [HP.out, HLN.out])
  rw [HG.out]
  clear hr hA hnc HG
  go_enter Tryd.func14, Tryd.ntmps14
  go_wp2_with fail
  refine HDF.out.mono ?_
  rintro e w1 ⟨v1, rfl, ho1, hb1⟩
  obtain ⟨A1, c1, rfl⟩ := ho1.slice
  have HO1 := Lib.hid ho1
  have HB1 := Lib.hid hb1
  have HC1 := Lib.hid (noCap' ho1)
  clear ho1 hb1 HDF
  obtain ⟨pl, HPP⟩ : ∃ pl, RowKit.Hid (P.length = pl) := ⟨_, Lib.hid rfl⟩
  rw [HPP.out]
  have HTB : RowKit.Hid (∀ wx vx L, GO w1 wx vx L → Rd wx wx.heap.size A n (us l) ∧ Rd wx w1.heap.size A1 pl (us P) ∧ Below w.heap.size w wx) := Lib.hid (fun wx vx L h =>
    ⟨(HR.out.next HB1.out).next h.below, by have := HO1.out.rd.2.below h.below; rwa [HPP.out] at this, HB1.out.trans (h.below.mono HB1.out.size)⟩)
  have HG2 : RowKit.Hid (GO w1 (w1.alloc (.cells #[.int .u8 31, .int .u8 139, .int .u8 8, .int .u8 0, .int .u8 0, .int .u8 0, .int .u8 0, .int .u8 0, .int .u8 0, .int .u8 255] 5)) (.slice (some ⟨w1.heap.size, 0, none⟩) 10 10) headB) := Lib.hid
    ⟨Own.lit w1 _ headB 10 rfl rfl (by decide), below_make (World.grownBy_alloc w1 _ none)⟩
  have HTB2 := Lib.hid (HTB.out _ _ _ HG2.out)
  go_wp2_with (at_builtin; refine cat8 _ rfl (.tmp 19) (.tmp 20) rfl w1.heap.size w1.heap.size (.slice (some ⟨w1.heap.size, 0, none⟩) 10 10) headB P A1 pl c1 rfl rfl HG2.out.own HTB2.out.2.1 HC1.out HG2.out.below.size (by have := HPL.out; have := HPP.out; show 10 + pl ≤ 1000000; omega) ?_)
  intro v5 w5 ho5 hg5 _
  have hG5 := HG2.out.grow ho5 hg5
  obtain ⟨q5, HQ5⟩ : ∃ q5, RowKit.Hid (10 + pl = q5) := ⟨_, Lib.hid rfl⟩
  obtain ⟨A5, c5, rfl⟩ := hG5.slice q5 (by have h1 := HPP.out; have h2 := HQ5.out; simp [headB]; omega)
  have HG5 := Lib.hid hG5
  clear ho5 hg5 hG5 HG2 HTB2
  have HTB5 := Lib.hid (HTB.out _ _ _ HG5.out)
  have HQB : RowKit.Hid (q5 ≤ 310010) := Lib.hid (by have := HQ5.out; have := HPL.out; have := HPP.out; omega)
  go_wp2_with fail
  refine (crof_any A n c l w5 HTB5.out.1 (by omega)).mono ?_
  rintro e wz ⟨rfl, rfl⟩
  obtain ⟨s, HS⟩ : ∃ s, RowKit.Hid ((addP 0 l).toNat = s) := ⟨_, Lib.hid rfl⟩
  rw [show U32 (addP 0 l) = .int .u32 ((addP 0 l).toNat : Int) from rfl, HS.out]
  have hs : s < 4294967296 := by have := u32_lt (addP 0 l); have := HS.out; omega
  go_wp2_with fail
  refine (four_any4 s wz hs).mono ?_
  rintro e w6 ⟨A6, c6, rfl, hr6, hc6, hg6⟩
  have HG6 : RowKit.Hid (GO w1 w6 (.slice A5 q5 c5) (headB ++ P)) := Lib.hid ⟨World.ownsRow.kept HG5.out.own hg6 (own_none _), HG5.out.below.trans ((below_make hg6).mono HG5.out.below.size)⟩
  have HR6 := Lib.hid (And.intro hr6 hc6)
  clear hr6 hc6 hg6 HG5 HTB5
  go_wp2_with (at_builtin; refine cat8 w6 rfl (.tmp 22) (.tmp 25) rfl w1.heap.size w6.heap.size (.slice A5 q5 c5) _ (fourB s) A6 4 c6 rfl rfl HG6.out.own HR6.out.1 HR6.out.2 HG6.out.below.size (by have := HQB.out; have h1 := HPP.out; have h2 := HQ5.out; simp [headB]; omega) ?_)
  intro v7 w7 ho7 hg7 _
  have hG7 := HG6.out.grow ho7 hg7
  obtain ⟨q7, HQ7⟩ : ∃ q7, RowKit.Hid (q5 + 4 = q7) := ⟨_, Lib.hid rfl⟩
  obtain ⟨A7, c7, rfl⟩ := hG7.slice q7 (by have h1 := HPP.out; have h2 := HQ5.out; have h3 := HQ7.out; simp [headB, fourB_length]; omega)
  have HG7 := Lib.hid hG7
  clear ho7 hg7 hG7 HG6 HR6
  have e32 : (n : Int) % 4294967296 = (n : Int) := by omega
  go_wp2_with fail
  refine (four_any4 n w7 (by omega)).mono ?_
  rintro e w8 ⟨A8, c8, rfl, hr8, hc8, hg8⟩
  have HG8 : RowKit.Hid (GO w1 w8 (.slice A7 q7 c7) (headB ++ P ++ fourB s)) := Lib.hid ⟨World.ownsRow.kept HG7.out.own hg8 (own_none _), HG7.out.below.trans ((below_make hg8).mono HG7.out.below.size)⟩
  have HR8 := Lib.hid (And.intro hr8 hc8)
  clear hr8 hc8 hg8 HG7
  go_wp2_with (at_builtin; refine cat8 w8 rfl (.tmp 27) (.tmp 31) rfl w1.heap.size w8.heap.size (.slice A7 q7 c7) _ (fourB n) A8 4 c8 rfl rfl HG8.out.own HR8.out.1 HR8.out.2 HG8.out.below.size (by have := HQB.out; have h1 := HPP.out; have h2 := HQ5.out; simp [headB, fourB_length]; omega) ?_)
  intro v9 w9 ho9 hg9 _
  have hG9 := HG8.out.grow ho9 hg9
  have HF := Lib.hid (And.intro hG9 (HTB.out _ _ _ hG9).2.2)
  clear ho9 hg9 hG9 HG8 HR8
  go_wp2_with fail
  go_ret2
  refine ⟨v9, rfl, ?_, HF.out.2⟩
  rw [HS.out]
  simp only [List.append_assoc]
  exact own_mono HF.out.1.own HB1.out.size
set_option maxHeartbeats 4000000 in
theorem gpck_any (A : Option Addr) (n c : Nat) (l : List UInt8) (z : Int) (w : World) (hr : Rd w w.heap.size A n (us l)) (hA : A = none → c = 0) (hnc : n ≤ c) (ht : Tabs w) :
    Calls Tryd.prog 4 #[.slice A n c, .int .i64 z] w fun e w' => e = .returned (.bool true) ∧ Below w.heap.size w w' := by
  have HR := Lib.hid hr
  have HT := Lib.hid ht
  have HA := Lib.hid (And.intro hA hnc)
  clear hr hA hnc ht
  go_enter Tryd.func4, Tryd.ntmps4
  go_wp2_with fail
  refine (alive_gz w HT.out).mono ?_
  rintro e w1 ⟨rfl, hb1⟩
  have HB1 := Lib.hid hb1
  have HR1 := Lib.hid (HR.out.next hb1)
  have HT1 := Lib.hid (HT.out.below hb1 HT.out.size)
  clear hb1 HR HT
  by_cases hn : 600 < n
  · have d1 : decide (600 < (n : Int)) = true := decide_eq_true (by omega)
    go_wp2_with fail
    go_ret
    exact ⟨rfl, HB1.out⟩
  · have d1 : decide (600 < (n : Int)) = false := decide_eq_false (by omega)
    by_cases hz : z < 0 ∨ 2 < z
    · have HP := Lib.hid (fun w => gpack_range A n c z w hz)
      have HPR := Lib.hid (fun w => rgpack_range A n c z w hz)
      have HN := Lib.hid (fun w => num_any 1 w)
      clear hz
      go_wp2_with fail
      refine (HP.out w1).mono ?_
      rintro e w2 ⟨rfl, hb2⟩
      have HB2 := Lib.hid (HB1.out.trans (hb2.mono HB1.out.size))
      clear hb2
      go_wp2_with fail
      refine (HPR.out w2).mono ?_
      rintro e wz ⟨rfl, rfl⟩
      go_wp2_with fail
      refine (HN.out _).mono ?_
      rintro e wz ⟨rfl, rfl⟩
      go_wp2_with fail
      go_ret
      exact ⟨rfl, HB2.out⟩
    · have HZ : RowKit.Hid (0 ≤ z ∧ z ≤ 2) := Lib.hid (by omega)
      obtain ⟨X, hX⟩ : ∃ X, gzP l z = X := ⟨_, rfl⟩
      have HP := Lib.hid (gpack_any A n c l z w1 HR1.out HA.out.1 (by omega) HA.out.2 HZ.out HT1.out)
      have HPR := Lib.hid (fun w hr => rgpack_any A n c l z w hr HA.out.1 (by omega) HA.out.2 HZ.out)
      rw [hX] at HP HPR
      have HN := Lib.hid (fun w => num_any 0 w)
      clear hz hX
      go_wp2_with fail
      refine HP.out.mono ?_
      rintro e w2 ⟨v2, rfl, ho2, hb2⟩
      have HO2 := Lib.hid ho2
      have HB2 := Lib.hid (HB1.out.trans (hb2.mono HB1.out.size))
      have HR2 := Lib.hid (HR1.out.next hb2)
      clear ho2 hb2 HP HR1
      obtain ⟨Av, cv, hv2⟩ := HO2.out.slice
      subst hv2
      go_wp2_with fail
      refine (HPR.out w2 HR2.out).mono ?_
      rintro e w3 ⟨v3, rfl, ho3, hb3⟩
      obtain ⟨A3, c3, hv3⟩ := ho3.slice
      subst hv3
      have HX := Lib.hid (HO2.out.rd.2.next hb3)
      have HY := Lib.hid ho3.rd.2
      have HB3 := Lib.hid (HB2.out.trans (hb3.mono HB2.out.size))
      clear ho3 hb3 HO2 HPR HR2
      generalize X.length = xl at HX HY ⊢
      go_wp2_with fail
      refine (HN.out w3).mono ?_
      rintro e wz ⟨rfl, rfl⟩
      go_wp2_with fail
      refine (bytes_same Av A3 xl cv c3 X _ HX.out HY.out).mono ?_
      rintro e wz ⟨rfl, rfl⟩
      go_wp2_with fail
      go_ret
      exact ⟨rfl, HB3.out⟩
end Go.Proofs.YtpnnlhegncbfaaaDoor
