/- Contracts of Float and Text at -0, of Canon at whole numbers and at -0; alive. -/
import Derived.Test.YtfebfkbdbncihaaGreatDoorNuh
namespace Go.Proofs.YtfebfkbdbncihaaGreatDoor
set_option maxRecDepth 100000
open Go.RowKit

set_option maxHeartbeats 4000000 in
theorem float_negz (w : World) (ht : NTabs w) : Calls Tryz.prog 10 #[.string (tx negz)] w fun e w' => e = .returned (.tuple #[.float .f64 9223372036854775808, .nilIface]) ∧ Below w.heap.size w w' := by
  have HR := Lib.hid (read_any negz w (by decide))
  have HP := Lib.hid (fun wx hx => pf_negz wx hx)
  have HI := Lib.hid (fun wx => isinf_any 9223372036854775808 wx (by decide) (by decide))
  rw [show infW 9223372036854775808 = false by decide] at HI
  have HT := Lib.hid ht
  have HE : RowKit.Hid (rdErr negz = 0) := Lib.hid (by decide)
  clear ht
  generalize tx negz = s at *
  go_enter Tryz.func10, Tryz.ntmps10
  go_wp2_with fail
  refine HR.out.mono ?_
  rintro e w1 ⟨hb1, m, a, b, z, rfl, -⟩
  rw [HE.out]
  rw [show errV 0 = .nilIface from rfl]
  have HB := Lib.hid (hb1.grown (World.grownBy_alloc w1 (.cells #[.bool m, .string a, .string b, .int .i64 z] 56) none) hb1.size (fun _ h => by cases h))
  have HT1 := Lib.hid (HT.out.below HB.out)
  clear hb1
  go_wp2_with (first | (go_at_call 29; refine (HP.out _ HT1.out).mono ?_; rintro e w2 ⟨rfl, rfl⟩) | (go_at_call 23; refine (HI.out _).mono ?_; rintro e w3 ⟨rfl, rfl⟩))
  go_ret2
  exact ⟨rfl, HB.out⟩
set_option maxHeartbeats 4000000 in
theorem text_negz (w : World) : Calls Tryz.prog 20 #[.float .f64 9223372036854775808] w fun e w' => e = .returned (.tuple #[.string ⟨#[45, 48]⟩, .nilIface]) ∧ w = w' := by
  have HI := Lib.hid (fun wx => isinf_any 9223372036854775808 wx (by decide) (by decide))
  rw [show infW 9223372036854775808 = false by decide] at HI
  have HN := Lib.hid (fun wx => isnan_any 9223372036854775808 wx)
  rw [show nanW 9223372036854775808 = false by decide] at HN
  have HS := Lib.hid (fun wx => signbit_any 9223372036854775808 wx (by decide))
  rw [show negW 9223372036854775808 = true by decide] at HS
  have h0 : (ord 9223372036854775808 0 == some .eq) = true := by decide
  go_enter Tryz.func20, Tryz.ntmps20
  go_wp2_with (first | (go_at_call 22; refine (HN.out _).mono ?_; rintro e w2 ⟨rfl, rfl⟩) | (go_at_call 23; refine (HI.out _).mono ?_; rintro e w3 ⟨rfl, rfl⟩) | (go_at_call 33; refine (HS.out _).mono ?_; rintro e w3 ⟨rfl, rfl⟩))
  go_ret2
  exact ⟨rfl, rfl⟩
theorem below_grow (w : World) (k : Nat) (os : Array Obj) : Below w.heap.size w (Sort.grow (w.drewN k) os) :=
  (below_drewN w k).trans ⟨rfl, rfl, rfl, by simp [Sort.grow], fun j hj => by
    have hj2 : j < (w.drewN k).heap.size := hj
    show ((w.drewN k).heap ++ os)[j]? = _
    rw [Array.getElem?_append_left hj2]⟩
set_option maxHeartbeats 4000000 in
theorem canon_whole (l : List UInt8) (n : Int) (w : World) (ht : NTabs w) (h64 : l.length ≤ 64) (hok : spOk l = true) (hv : valR (spM l) (spA l) (spB l) (spZ l) = (n, 0)) (hn : n ≠ 0 ∨ spM l = false) (hn1 : -9223372036854775808 ≤ n) (hn2 : n ≤ 9223372036854775807)
    (hb1 : (spA l).length ≤ 1000) (hb2 : (spB l).length ≤ 1000) (hb3 : -1000 ≤ spZ l) (hb4 : spZ l ≤ 1000) :
    Calls Tryz.prog 17 #[.string (tx l)] w fun e w' => e = .returned (.tuple #[.string (tx (Lib.itoa n)), .nilIface]) ∧ Below w.heap.size w w' := by
  have hr0 : rdErr l = 0 := by unfold rdErr; rw [if_pos h64, hok]; rfl
  have HR := Lib.hid (read_any l w (by omega))
  have HE : RowKit.Hid (rdErr l = 0) := Lib.hid hr0
  have HT := Lib.hid ht
  have HV := Lib.hid (fun wx hx => value_any (spM l) (spA l) (spB l) (spZ l) wx hb1 hb2 hb3 hb4 hx)
  rw [hv] at HV
  have HI := Lib.hid (fun wx hx => Tryz.strconv_Itoa n hn1 hn2 wx hx)
  have HX : RowKit.Hid ((⟨(Lib.itoa n).toArray⟩ : ByteArray) = tx (Lib.itoa n)) := Lib.hid rfl
  rw [HX.out] at HI
  generalize tx (Lib.itoa n) = so at HI ⊢
  clear ht hr0 hok hv hb1 hb2 hb3 hb4 h64 HX
  have HN := Lib.hid hn
  generalize hs : tx l = s at HR ⊢
  clear hs hn
  go_enter Tryz.func17, Tryz.ntmps17
  go_wp2_with fail
  refine HR.out.mono ?_
  rintro e w1 ⟨hb1, m, a, b, z, rfl, hf⟩
  obtain ⟨rfl, rfl, rfl, rfl⟩ := hf HE.out
  rw [HE.out]
  rw [show errV 0 = .nilIface from rfl]
  generalize spM l = m at *
  generalize tx (spA l) = sA at *
  generalize tx (spB l) = sB at *
  generalize spZ l = z at *
  have HW := Lib.hid (ow_new w1 #[.bool m, .string sA, .string sB, .int .i64 z])
  have HB := Lib.hid (hb1.trans (HW.out.bl.mono hb1.size))
  have HT1 := Lib.hid (HT.out.below HB.out)
  clear hb1 hf HR
  go_wp2_with fail
  refine (HV.out _ HT1.out).mono ?_
  rintro e w2 ⟨hb2, rfl⟩
  have HW2 := Lib.hid (HW.out.below hb2)
  have HB2 := Lib.hid (HB.out.trans (hb2.mono HB.out.size))
  have HT2 := Lib.hid (HT.out.below HB2.out)
  rw [show errV ((n, 0) : Int × Nat).2 = .nilIface from rfl, show ((n, 0) : Int × Nat).1 = n from rfl]
  have n0 : w2.cell? ⟨w1.heap.size, 0, none⟩ = some (.bool m) := HW2.out.r0.cell 0
  clear hb2 HV
  by_cases hz : n = 0
  · subst hz
    have hm : m = false := by
      rcases HN.out with h | h
      · exact absurd rfl h
      · exact h
    subst hm
    go_wp2_with (first | (go_at_call 32; refine (HI.out _ HT2.out.u64).mono ?_; rintro e w3 ⟨rfl, k, os, rfl⟩))
    go_ret2
    exact ⟨rfl, HB2.out.trans ((below_grow w2 k os).mono HB2.out.size)⟩
  · have hz1 : (n != 0) = true := by rw [bne_iff_ne]; exact hz
    go_wp2_with (first | (go_at_call 32; refine (HI.out _ HT2.out.u64).mono ?_; rintro e w3 ⟨rfl, k, os, rfl⟩))
    go_ret2
    exact ⟨rfl, HB2.out.trans ((below_grow w2 k os).mono HB2.out.size)⟩
set_option maxHeartbeats 4000000 in
theorem canon_negz (w : World) (ht : NTabs w) : Calls Tryz.prog 17 #[.string (tx negz)] w fun e w' => e = .returned (.tuple #[.string ⟨#[45, 48]⟩, .nilIface]) ∧ Below w.heap.size w w' := by
  have HR := Lib.hid (read_any negz w (by decide))
  have HE : RowKit.Hid (rdErr negz = 0) := Lib.hid (by decide)
  have HT := Lib.hid ht
  have HV := Lib.hid (fun wx hx => value_any true [48] [48] 0 wx (by decide) (by decide) (by decide) (by decide) hx)
  rw [show valR true [48] [48] 0 = (0, 0) by decide] at HV
  have HF := Lib.hid (fun wx hx => float_negz wx hx)
  have HX := Lib.hid text_negz
  have HS : RowKit.Hid (spM negz = true ∧ tx (spA negz) = tx [48] ∧ tx (spB negz) = tx [48] ∧ spZ negz = 0) := Lib.hid ⟨by decide, by rw [show spA negz = [48] by decide], by rw [show spB negz = [48] by decide], by decide⟩
  clear ht
  generalize hs : tx negz = s at HR HF ⊢
  clear hs
  generalize tx [48] = s0 at *
  go_enter Tryz.func17, Tryz.ntmps17
  go_wp2_with fail
  refine HR.out.mono ?_
  rintro e w1 ⟨hb1, m, a, b, z, rfl, hf⟩
  obtain ⟨rfl, rfl, rfl, rfl⟩ := hf HE.out
  rw [HE.out, HS.out.1, HS.out.2.1, HS.out.2.2.1, HS.out.2.2.2]
  rw [show errV 0 = .nilIface from rfl]
  have HW := Lib.hid (ow_new w1 #[.bool true, .string s0, .string s0, .int .i64 0])
  have HB := Lib.hid (hb1.trans (HW.out.bl.mono hb1.size))
  have HT1 := Lib.hid (HT.out.below HB.out)
  clear hb1 hf HR HS HE
  go_wp2_with fail
  refine (HV.out _ HT1.out).mono ?_
  rintro e w2 ⟨hb2, rfl⟩
  have HW2 := Lib.hid (HW.out.below hb2)
  have HB2 := Lib.hid (HB.out.trans (hb2.mono HB.out.size))
  have HT2 := Lib.hid (HT.out.below HB2.out)
  rw [show errV ((0, 0) : Int × Nat).2 = .nilIface from rfl, show ((0, 0) : Int × Nat).1 = 0 from rfl]
  have n0 : w2.cell? ⟨w1.heap.size, 0, none⟩ = some (.bool true) := HW2.out.r0.cell 0
  clear hb2 HV
  go_wp2_with fail
  refine (HF.out _ HT2.out).mono ?_
  rintro e w3 ⟨rfl, hb3⟩
  have HB3 := Lib.hid (HB2.out.trans (hb3.mono HB2.out.size))
  clear hb3
  go_wp2_with (first | (go_at_call 20; refine (HX.out _).mono ?_; rintro e w4 ⟨rfl, rfl⟩))
  go_ret2
  exact ⟨rfl, HB3.out⟩
theorem itoa_15 : tx (Lib.itoa 15) = ⟨#[49, 53]⟩ := by
  have : Lib.itoa 15 = [49, 53] := by
    unfold Lib.itoa
    rw [if_neg (by decide)]
    show Lib.decDigits 15 = _
    rw [Lib.decDigits, dif_neg (by decide), Lib.decDigits, dif_pos (by decide)]
    rfl
  rw [this]; rfl
theorem itoa_100 : tx (Lib.itoa 100) = ⟨#[49, 48, 48]⟩ := by
  have : Lib.itoa 100 = [49, 48, 48] := by
    unfold Lib.itoa
    rw [if_neg (by decide)]
    show Lib.decDigits 100 = _
    rw [Lib.decDigits, dif_neg (by decide), Lib.decDigits, dif_neg (by decide), Lib.decDigits, dif_pos (by decide)]
    rfl
  rw [this]; rfl
theorem canon_15 (w : World) (ht : NTabs w) : Calls Tryz.prog 17 #[.string ⟨#[49, 46, 53, 48, 101, 49]⟩] w fun e w' => e = .returned (.tuple #[.string ⟨#[49, 53]⟩, .nilIface]) ∧ Below w.heap.size w w' := by
  have h := canon_whole [49, 46, 53, 48, 101, 49] 15 w ht (by decide) (by decide) (by decide) (.inl (by decide)) (by decide) (by decide) (by decide) (by decide) (by decide) (by decide)
  rwa [itoa_15] at h
theorem canon_100 (w : World) (ht : NTabs w) : Calls Tryz.prog 17 #[.string ⟨#[49, 101, 50]⟩] w fun e w' => e = .returned (.tuple #[.string ⟨#[49, 48, 48]⟩, .nilIface]) ∧ Below w.heap.size w w' := by
  have h := canon_whole [49, 101, 50] 100 w ht (by decide) (by decide) (by decide) (.inl (by decide)) (by decide) (by decide) (by decide) (by decide) (by decide) (by decide)
  rwa [itoa_100] at h
set_option maxHeartbeats 4000000 in
theorem alive_any (w : World) (ht : NTabs w) : Calls Tryz.prog 8 #[] w fun e w' => e = .returned (.bool true) ∧ Below w.heap.size w w' := by
  have H1 := Lib.hid (canon_15 w ht)
  have HT := Lib.hid ht
  have H2 := Lib.hid (fun wx hx => canon_100 wx hx)
  have H3 := Lib.hid (fun wx hx => canon_negz wx hx)
  clear ht
  go_enter Tryz.func8, Tryz.ntmps8
  go_wp2_with fail
  refine H1.out.mono ?_
  rintro e w1 ⟨rfl, hb1⟩
  have HT1 := Lib.hid (HT.out.below hb1)
  have HB1 := Lib.hid hb1
  clear hb1
  go_wp2_with fail
  refine (H2.out _ HT1.out).mono ?_
  rintro e w2 ⟨rfl, hb2⟩
  have HB2 := Lib.hid (HB1.out.trans (hb2.mono HB1.out.size))
  have HT2 := Lib.hid (HT.out.below HB2.out)
  clear hb2
  go_wp2_with fail
  refine (H3.out _ HT2.out).mono ?_
  rintro e w3 ⟨rfl, hb3⟩
  have HB3 := Lib.hid (HB2.out.trans (hb3.mono HB2.out.size))
  clear hb3
  go_wp2_with fail
  go_ret
  exact ⟨rfl, HB3.out⟩
end Go.Proofs.YtfebfkbdbncihaaGreatDoor
