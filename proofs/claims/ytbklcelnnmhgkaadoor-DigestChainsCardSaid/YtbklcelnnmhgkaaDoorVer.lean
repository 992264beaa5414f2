/- Contracts of digest.Verify and of what tells an error's number. -/
import Derived.Test.YtbklcelnnmhgkaaDoorPse
namespace Go.Proofs.YtbklcelnnmhgkaaDoor
open Go.RowKit

theorem toList_eq (a : ByteArray) : a.toList = a.data.toList := by
  have h := Lib.extract_toList a 0 a.size
  rw [ByteArray.extract_zero_size] at h
  rw [h, List.drop_zero, List.take_of_length_le (by simp)]
theorem text_ne {a b : ByteArray} (h : ¬ a = b) : (a.toList == b.toList) = false := by
  rw [beq_eq_false_iff_ne]
  intro e
  refine h (ByteArray.ext ?_)
  have e2 : a.data.toList = b.data.toList := by rw [← toList_eq, ← toList_eq]; exact e
  exact Array.ext' e2
theorem text_same (a : ByteArray) : (a.toList == a.toList) = true := by simp

set_option maxHeartbeats 400000 in
theorem num_sum (w : World) : Calls Tryd.prog 18 #[.iface 37 (.int .i64 6)] w fun e w' => e = .returned (.int .i64 6) ∧ w = w' := by
  have k := ta37
  go_enter Tryd.func18, Tryd.ntmps18
  go_wp2_with fail
  go_ret
  exact ⟨rfl, rfl⟩
set_option maxHeartbeats 400000 in
theorem num_nil (w : World) : Calls Tryd.prog 18 #[.nilIface] w fun e w' => e = .returned (.int .i64 0) ∧ w = w' := by
  go_enter Tryd.func18, Tryd.ntmps18
  go_wp2_with fail
  go_ret
  exact ⟨rfl, rfl⟩

/-- What Verify answers. -/
def verV (s : ByteArray) (l : List UInt8) : Value :=
  if (parseF s.data.toList).isSome then (if nameP (ofP l) = s then .nilIface else .iface 37 (.int .i64 6)) else .iface 37 (.int .i64 2)

set_option maxHeartbeats 400000 in
theorem verify_any (s : ByteArray) (A : Option Addr) (n c : Nat) (l : List UInt8) (w : World) (hs : s.size ≤ 8000) (hr : Rd w w.heap.size A n (us l)) (hc : A = none → c = 0) (ht : Tabs w) (hn : n ≤ 400) :
    Calls Tryd.prog 19 #[.string s, .slice A n c] w fun e w' => e = .returned (verV s l) ∧ Below w.heap.size w w' := by
  have HS := Lib.hid hs
  have HR := Lib.hid hr
  have HC := Lib.hid hc
  have HT := Lib.hid ht
  have HN := Lib.hid hn
  clear hs hr hc ht hn
  cases hp : (parseF s.data.toList).isSome with
  | false =>
    have hv : verV s l = .iface 37 (.int .i64 2) := by unfold verV; rw [hp]; rfl
    rw [hv]
    have HP := Lib.hid hp
    clear hp hv
    go_enter Tryd.func19, Tryd.ntmps19
    go_wp2_with fail
    refine (dis_any s w HS.out).mono ?_
    rintro e w1 ⟨rfl, hb⟩
    rw [HP.out]
    have HB := Lib.hid hb
    clear hb
    go_wp2_with fail
    go_ret
    exact ⟨rfl, HB.out⟩
  | true =>
    have HP := Lib.hid hp
    clear hp
    obtain ⟨N, HO⟩ : ∃ N, RowKit.Hid (nameP (ofP l) = N) := ⟨_, Lib.hid rfl⟩
    by_cases he : N = s
    · have hv : verV s l = .nilIface := by unfold verV; rw [HP.out, HO.out]; simp [he]
      rw [hv]
      clear hv
      subst he
      go_enter Tryd.func19, Tryd.ntmps19
      go_wp2_with fail
      refine (dis_any N w HS.out).mono ?_
      rintro e w1 ⟨rfl, hb⟩
      rw [HP.out]
      have HB := Lib.hid hb
      clear hb
      go_wp2_with fail
      refine (dof_any A n c l w1 (HR.out.next HB.out) HC.out (HT.out.below HB.out HT.out.size) (by have := HN.out; omega)).mono ?_
      rintro e w2 ⟨rfl, hb2⟩
      rw [HO.out]
      have HB2 := Lib.hid (HB.out.trans (hb2.mono HB.out.size))
      clear hb2 HB
      go_wp2_with fail
      go_ret
      exact ⟨rfl, HB2.out⟩
    · have hv : verV s l = .iface 37 (.int .i64 6) := by unfold verV; rw [HP.out, HO.out]; simp [he]
      rw [hv]
      clear hv
      go_enter Tryd.func19, Tryd.ntmps19
      go_wp2_with fail
      refine (dis_any s w HS.out).mono ?_
      rintro e w1 ⟨rfl, hb⟩
      rw [HP.out]
      have HB := Lib.hid hb
      clear hb
      go_wp2_with fail
      refine (dof_any A n c l w1 (HR.out.next HB.out) HC.out (HT.out.below HB.out HT.out.size) (by have := HN.out; omega)).mono ?_
      rintro e w2 ⟨rfl, hb2⟩
      rw [HO.out]
      have HB2 := Lib.hid (HB.out.trans (hb2.mono HB.out.size))
      clear hb2 HB
      have hne := text_ne he
      go_wp2_with fail
      go_ret
      exact ⟨rfl, HB2.out⟩
end Go.Proofs.YtbklcelnnmhgkaaDoor
