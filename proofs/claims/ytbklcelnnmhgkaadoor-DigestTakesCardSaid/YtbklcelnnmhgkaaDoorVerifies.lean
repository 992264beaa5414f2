/- Contract of the law DigestVerifies. -/
import Derived.Test.YtbklcelnnmhgkaaDoorVer
import Derived.Test.YtbklcelnnmhgkaaDoorRf5
namespace Go.Proofs.YtbklcelnnmhgkaaDoor
open Go.RowKit

theorem name_size (l : List UInt8) : (nameP (ofP l)).size = 71 := by
  show ((preL ++ hexL (ofP l)).toArray).size = 71
  simp [preL, hexL_length, ofP_length]
theorem ver_own (l : List UInt8) : verV (nameP (ofP l)) l = .nilIface := by
  unfold verV
  have : parseF (nameP (ofP l)).data.toList = some (ofP l) := by
    show parseF (preL ++ hexL (ofP l)).toArray.toList = _
    rw [List.toList_toArray]
    exact parse_of _ (ofP_length l)
  rw [this]
  simp

set_option maxHeartbeats 400000 in
theorem verifies_long (s : ByteArray) (A : Option Addr) (n c : Nat) (w : World) (ht : Tabs w) (hn : 300 < n ∨ 300 < s.size) :
    Calls Tryd.prog 5 #[.string s, .slice A n c] w fun e w' => e = .returned (.bool true) ∧ Below w.heap.size w w' := by
  have HT := Lib.hid ht
  clear ht
  by_cases h1 : 300 < n
  · have hd : decide ((300 : Int) < (n : Int)) = true := decide_eq_true (by omega)
    clear hn h1
    go_enter Tryd.func5, Tryd.ntmps5
    go_wp2_with fail
    refine (alive_true w HT.out).mono ?_
    rintro e w1 ⟨rfl, hb1⟩
    have HB1 := Lib.hid hb1
    clear hb1
    go_wp2_with fail
    go_ret
    exact ⟨rfl, HB1.out⟩
  · have hd : decide ((300 : Int) < (n : Int)) = false := decide_eq_false (by omega)
    have hd2 : decide ((300 : Int) < (s.size : Int)) = true := decide_eq_true (by omega)
    clear hn h1
    go_enter Tryd.func5, Tryd.ntmps5
    go_wp2_with fail
    refine (alive_true w HT.out).mono ?_
    rintro e w1 ⟨rfl, hb1⟩
    have HB1 := Lib.hid hb1
    clear hb1
    go_wp2_with fail
    go_ret
    exact ⟨rfl, HB1.out⟩

set_option maxHeartbeats 1000000 in
theorem verifies_any (s : ByteArray) (A : Option Addr) (n c : Nat) (l : List UInt8) (w : World) (hs : s.size ≤ 300) (hr : Rd w w.heap.size A n (us l)) (hc : A = none → c = 0) (ht : Tabs w) (hn : n ≤ 300) :
    Calls Tryd.prog 5 #[.string s, .slice A n c] w fun e w' => e = .returned (.bool true) ∧ Below w.heap.size w w' := by
  have HS := Lib.hid hs
  have HR := Lib.hid hr
  have HC := Lib.hid hc
  have HT := Lib.hid ht
  have HN := Lib.hid hn
  have hd : decide ((300 : Int) < (n : Int)) = false := decide_eq_false (by omega)
  have hd2 : decide ((300 : Int) < (s.size : Int)) = false := decide_eq_false (by omega)
  clear hs hr hc ht hn
  go_enter Tryd.func5, Tryd.ntmps5
  go_wp2_with fail
  refine (alive_true w HT.out).mono ?_
  rintro e w1 ⟨rfl, hb1⟩
  have HB1 := Lib.hid hb1
  clear hb1
  go_wp2_with fail
  refine (ris_any s w1).mono ?_
  rintro e w1' ⟨rfl, rfl⟩
  rw [is_parse]
  cases hp : (parseF s.data.toList).isSome with
  | false =>
    have HV : RowKit.Hid (verV s l = .iface 37 (.int .i64 2)) := Lib.hid (by unfold verV; rw [hp]; rfl)
    have HB3 := HB1
    clear hp
    go_wp2_with fail
    generalize w1 = w3 at HB3 ⊢
    clear HB1
    refine (verify_any s A n c l w3 (by have := HS.out; omega) (HR.out.next HB3.out) HC.out (HT.out.below HB3.out HT.out.size) (by have := HN.out; omega)).mono ?_
    rintro e w4 ⟨rfl, hb4⟩
    rw [HV.out]
    have HB4 := Lib.hid (HB3.out.trans (hb4.mono HB3.out.size))
    clear hb4 HB3
    go_wp2_with fail
    refine (num_form w4).mono ?_
    rintro e w4' ⟨rfl, rfl⟩
    go_wp2_with fail
    refine (dof_any A n c l w4 (HR.out.next HB4.out) HC.out (HT.out.below HB4.out HT.out.size) (by have := HN.out; omega)).mono ?_
    rintro e w5 ⟨rfl, hb5⟩
    have HB5 := Lib.hid (HB4.out.trans (hb5.mono HB4.out.size))
    clear hb5 HB4
    go_wp2_with fail
    refine (verify_any (nameP (ofP l)) A n c l w5 (by rw [name_size]; decide) (HR.out.next HB5.out) HC.out (HT.out.below HB5.out HT.out.size) (by have := HN.out; omega)).mono ?_
    rintro e w6 ⟨rfl, hb6⟩
    rw [ver_own]
    have HB6 := Lib.hid (HB5.out.trans (hb6.mono HB5.out.size))
    clear hb6 HB5
    go_wp2_with fail
    go_ret
    exact ⟨rfl, HB6.out⟩
  | true =>
    go_wp2_with fail
    refine (rof_any A n c l w1 (HR.out.next HB1.out) HC.out (by have := HN.out; omega)).mono ?_
    rintro e w3 ⟨rfl, hb3⟩
    have HB3 := Lib.hid (HB1.out.trans (hb3.mono HB1.out.size))
    clear hb3 HB1
    by_cases he : nameP (ofP l) = s
    · have HV : RowKit.Hid (verV s l = .nilIface) := Lib.hid (by unfold verV; rw [hp]; simp [he])
      rw [he]
      clear he hp
      go_wp2_with fail
      refine (verify_any s A n c l w3 (by have := HS.out; omega) (HR.out.next HB3.out) HC.out (HT.out.below HB3.out HT.out.size) (by have := HN.out; omega)).mono ?_
      rintro e w4 ⟨rfl, hb4⟩
      rw [HV.out]
      have HB4 := Lib.hid (HB3.out.trans (hb4.mono HB3.out.size))
      clear hb4 HB3
      go_wp2_with fail
      refine (num_nil w4).mono ?_
      rintro e w4' ⟨rfl, rfl⟩
      go_wp2_with fail
      refine (dof_any A n c l w4 (HR.out.next HB4.out) HC.out (HT.out.below HB4.out HT.out.size) (by have := HN.out; omega)).mono ?_
      rintro e w5 ⟨rfl, hb5⟩
      have HB5 := Lib.hid (HB4.out.trans (hb5.mono HB4.out.size))
      clear hb5 HB4
      go_wp2_with fail
      refine (verify_any (nameP (ofP l)) A n c l w5 (by rw [name_size]; decide) (HR.out.next HB5.out) HC.out (HT.out.below HB5.out HT.out.size) (by have := HN.out; omega)).mono ?_
      rintro e w6 ⟨rfl, hb6⟩
      rw [ver_own]
      have HB6 := Lib.hid (HB5.out.trans (hb6.mono HB5.out.size))
      clear hb6 HB5
      go_wp2_with fail
      go_ret
      exact ⟨rfl, HB6.out⟩
    · have HV : RowKit.Hid (verV s l = .iface 37 (.int .i64 6)) := Lib.hid (by unfold verV; rw [hp]; simp [he])
      have hne := text_ne he
      clear he hp
      go_wp2_with fail
      refine (verify_any s A n c l w3 (by have := HS.out; omega) (HR.out.next HB3.out) HC.out (HT.out.below HB3.out HT.out.size) (by have := HN.out; omega)).mono ?_
      rintro e w4 ⟨rfl, hb4⟩
      rw [HV.out]
      have HB4 := Lib.hid (HB3.out.trans (hb4.mono HB3.out.size))
      clear hb4 HB3
      go_wp2_with fail
      refine (num_sum w4).mono ?_
      rintro e w4' ⟨rfl, rfl⟩
      go_wp2_with fail
      refine (dof_any A n c l w4 (HR.out.next HB4.out) HC.out (HT.out.below HB4.out HT.out.size) (by have := HN.out; omega)).mono ?_
      rintro e w5 ⟨rfl, hb5⟩
      have HB5 := Lib.hid (HB4.out.trans (hb5.mono HB4.out.size))
      clear hb5 HB4
      go_wp2_with fail
      refine (verify_any (nameP (ofP l)) A n c l w5 (by rw [name_size]; decide) (HR.out.next HB5.out) HC.out (HT.out.below HB5.out HT.out.size) (by have := HN.out; omega)).mono ?_
      rintro e w6 ⟨rfl, hb6⟩
      rw [ver_own]
      have HB6 := Lib.hid (HB5.out.trans (hb6.mono HB5.out.size))
      clear hb6 HB5
      go_wp2_with fail
      go_ret
      exact ⟨rfl, HB6.out⟩
end Go.Proofs.YtbklcelnnmhgkaaDoor
