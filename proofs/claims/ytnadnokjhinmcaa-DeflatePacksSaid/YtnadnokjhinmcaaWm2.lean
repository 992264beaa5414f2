/- Contracts of a writer's Put, Align and Bytes. -/
import Derived.Test.YtnadnokjhinmcaaWmt
namespace Go.Proofs.Ytnadnokjhinmcaa
open Go.RowKit

set_option maxHeartbeats 400000 in
set_option maxRecDepth 10000 in
theorem put_any (B g x : Nat) (n : Int) (m : List UInt8) (v : Value) (w : World) (hW : WM w B g v m) (hB : B ≤ w.heap.size) (hL : m.length ≤ 7000000) :
    Calls Try.prog 59 #[.pointer (some ⟨g, 0, none⟩), .int .u32 (x : Int), .int .i64 n] w fun e w' => e = .returned (errV (putE x n)) ∧ ∃ v', WM w' B g v' (m ++ putB false x n) ∧ St w g v w' v' := by
  have HW := Lib.hid hW
  clear hW
  by_cases hok : okP x n = true
  · have h := of_decide_eq_true hok
    obtain ⟨k, rfl⟩ : ∃ k : Nat, n = (k : Int) := ⟨n.toNat, by omega⟩
    rw [putE_ok hok, putB_low hok]
    simp only [Int.toNat_natCast] at h ⊢
    have HX := Lib.hid h.2.2
    have hk : k ≤ 32 := by omega
    clear h hok
    go_enter Try.func59, Try.ntmps59
    go_wp2_with fail
    refine (refusal_ok ⟨g, 0, none⟩ x k w hk HX.out).mono ?_
    rintro e w1 ⟨rfl, rfl⟩
    rw [show errV 0 = .nilIface from rfl]
    go_wp2_with fail
    refine (write_any B g _ _ x k v w1 HW.out.ws hB HX.out hk hL).mono ?_
    rintro e w2 ⟨rfl, v', hW2, hS2⟩
    have HW2 := Lib.hid hW2
    have HS2 := Lib.hid hS2
    clear hW2 hS2
    go_wp2_with fail
    go_ret
    refine ⟨rfl, v', WM.more ?_ HW.out.bin (bin_lowB x k), HS2.out⟩
    rw [numB_lowB, lowB_length, Nat.mod_eq_of_lt HX.out]
    exact HW2.out
  · have hno : okP x n = false := by simpa using hok
    rw [putE_no hno, putB_no hno, List.append_nil]
    have hr : Calls Try.prog 71 #[.pointer (some ⟨g, 0, none⟩), .int .u32 (x : Int), .int .i64 n] w fun e w' => e = .returned (errV 1) ∧ w' = w := by
      by_cases h1 : n < 0 ∨ 32 < n
      · exact refusal_out _ _ _ _ h1
      · obtain ⟨k, rfl⟩ : ∃ k : Nat, n = (k : Int) := ⟨n.toNat, by omega⟩
        refine refusal_no _ _ _ _ (by omega) ?_
        unfold okP at hno
        have := of_decide_eq_false hno
        simp only [Int.toNat_natCast] at this
        omega
    have HR := Lib.hid hr
    clear hr hno hok
    go_enter Try.func59, Try.ntmps59
    go_wp2_with fail
    refine HR.out.mono ?_
    rintro e w1 ⟨rfl, rfl⟩
    rw [show errV 1 = .iface 51 (.int .i64 1) from rfl]
    go_wp2_with fail
    go_ret
    exact ⟨rfl, v, HW.out, St.refl _ _ _⟩
set_option maxHeartbeats 400000 in
set_option maxRecDepth 10000 in
theorem walign_any (B g : Nat) (m : List UInt8) (v : Value) (w : World) (hW : WM w B g v m) :
    Calls Try.prog 49 #[.pointer (some ⟨g, 0, none⟩)] w fun e w' => e = .returned (.int .i64 (gap m.length : Int)) ∧ WM w' B g v (m ++ List.replicate (gap m.length) 0) ∧ St w g v w' v := by
  have hr := hW.room
  have hc1 := hr.cell1
  have hf1 := hr.row.thawed 1
  have HW2 := Lib.hid (show WM (w.setCell ⟨g, 1, none⟩ (.int .i64 0)) B g v (m ++ List.replicate (gap m.length) 0) from ⟨by
    rw [text_zeros hW.bin]
    refine hr.set1 _ 0 ?_
    rw [textB_length, List.length_append, List.length_replicate]
    unfold gap
    omega, hW.bin.append (bin_zeros _)⟩)
  have HS := Lib.hid (St.ofRow (v := v) (grown_setCell w g 1 (.int .i64 0)))
  clear hr hW
  generalize gap m.length = r at hc1 HW2 ⊢
  go_enter Try.func49, Try.ntmps49
  go_wp2_with fail
  go_ret
  exact ⟨rfl, HW2.out, HS.out⟩
/-- Bytes behind whole bytes. -/
theorem text_bytes {m : List UInt8} (h : Bin m) (h8 : m.length % 8 = 0) (b : List UInt8) : textB m ++ b = textB (m ++ bitsL b) := by
  refine textB_eq (h.append (bin_bitsL b)) ?_ ?_
  · rw [List.length_append, textB_length, List.length_append, bitsL_length]; omega
  · rw [numL_append, numL_textB h, textB_length, numB_append, numB_bitsL, show 8 * ((m.length + 7) / 8) = m.length by omega]
set_option maxHeartbeats 400000 in
set_option maxRecDepth 10000 in
theorem wbytes_form (B g : Nat) (m : List UInt8) (v b : Value) (w : World) (hW : WM w B g v m) (h8 : m.length % 8 ≠ 0) :
    Calls Try.prog 52 #[.pointer (some ⟨g, 0, none⟩), b] w fun e w' => e = .returned (errV 2) ∧ w' = w := by
  have hr := hW.room
  have hc1 := hr.cell1
  have hg : gap m.length ≠ 0 := by unfold gap; omega
  clear hr hW h8
  generalize gap m.length = r at hc1 hg
  have hz : ((r : Int) != 0) = true := by rw [bne_iff_ne]; omega
  go_enter Try.func52, Try.ntmps52
  go_wp2_with fail
  go_ret
  exact ⟨rfl, rfl⟩
set_option maxHeartbeats 400000 in
set_option maxRecDepth 10000 in
theorem wbytes_any (B g : Nat) (m : List UInt8) (v : Value) (A : Option Addr) (n c : Nat) (l : List UInt8) (w : World) (hW : WM w B g v m) (hB : B ≤ w.heap.size) (hr : Rd w w.heap.size A n (us l)) (hA : A = none → c = 0) (h8 : m.length % 8 = 0) (hL : m.length ≤ 7000000) (hn : n ≤ 100000) :
    Calls Try.prog 52 #[.pointer (some ⟨g, 0, none⟩), .slice A n c] w fun e w' => e = .returned (errV 0) ∧ ∃ v', WM w' B g v' (m ++ bitsL l) ∧ St w g v w' v' := by
  have hl : l.length = n := by have := hr.1; rwa [us_length] at this
  have hrm := hW.room
  have hg : gap m.length = 0 := by unfold gap; omega
  rw [hg] at hrm
  have hc0 := hrm.cell0
  have hc1 := hrm.cell1
  have hz : (((0 : Nat) : Int) != 0) = false := rfl
  have hTb : (textB m).length ≤ 875001 := by rw [textB_length]; omega
  obtain ⟨A0, c0, rfl⟩ := hrm.own.slice
  have HW := Lib.hid hW
  have HR := Lib.hid hr
  have HRM := Lib.hid hrm
  have HA := Lib.hid hA
  have H8 := Lib.hid h8
  have HT := Lib.hid hTb
  clear hW hr hrm hA h8 hg hTb
  go_enter Try.func52, Try.ntmps52
  go_wp2_with (at_builtin; refine cat8 w rfl (.tmp 20) (.tmp 21) rfl B w.heap.size _ (textB m) l A n c rfl rfl HRM.out.own HR.out HA.out hB (by have := HT.out; omega) ?_)
  intro v1 w1 ho hg hf
  rw [text_bytes HW.out.bin H8.out] at ho
  have hrow := HRM.out.row.grown hg (Ne.symm HRM.out.apart)
  have hap : v1.ownBlock ≠ some g := hf.not HRM.out.row.lt HRM.out.apart
  have hf0 := hrow.thawed 0
  have hd0 := hrow.cell 0
  obtain ⟨A1, c1, hv1⟩ := ho.slice
  obtain ⟨n1, hn1⟩ : ∃ n1, (textB (m ++ bitsL l)).length = n1 := ⟨_, rfl⟩
  rw [hn1] at hv1
  subst hv1
  have HF := Lib.hid (And.intro (Wr.set0 hrow ho hap) ((St.ofOwn (g := g) hg hf).trans (St.ofRow (v := .slice A1 n1 c1) (grown_setCell w1 g 0 (.slice A1 n1 c1)))))
  clear ho hg hf hrow hap hn1
  go_wp2_with fail
  go_ret
  refine ⟨rfl, _, ⟨?_, HW.out.bin.append (bin_bitsL l)⟩, HF.out.2⟩
  have e : 8 * (textB (m ++ bitsL l)).length - (m ++ bitsL l).length = 0 := by
    have := H8.out
    rw [textB_length, List.length_append, bitsL_length]; omega
  rw [e]
  exact HF.out.1
end Go.Proofs.Ytnadnokjhinmcaa
