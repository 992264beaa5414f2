
/- Contract of Put; rows of signs that the law made itself beside a writer and a reader. -/
import Derived.Test.YtnadnokjhinmcaaMth
import Derived.Test.YtnadnokjhinmcaaWmt
namespace Go.Proofs.Ytnadnokjhinmcaa
open Go.RowKit

/-- Which error Put has of a sign. -/
def ofE (ls : List Nat) (s : Int) : Nat := if lenI ls s = 0 then 1 else 0
/-- A sign's bits, as they are written. -/
def bitsO (ls : List Nat) (s : Int) : List UInt8 := (lowB (codeI ls s) (lenI ls s)).reverse
theorem bitsO_length (ls : List Nat) (s : Int) : (bitsO ls s).length = lenI ls s := by unfold bitsO; rw [List.length_reverse, lowB_length]
theorem bin_bitsO (ls : List Nat) (s : Int) : Bin (bitsO ls s) := bin_rev (bin_lowB _ _)
theorem codeI_pow {ls : List Nat} (hl : Low ls) (ho : okF (cnt ls)) (s : Int) : codeI ls s < 2 ^ lenI ls s := by
  unfold codeI lenI
  split
  · exact Nat.two_pow_pos _
  · exact code_pow hl ho _
theorem lenI_bound {ls : List Nat} (h : Low ls) (s : Int) : lenI ls s ≤ 15 := by
  unfold lenI
  split
  · omega
  · exact lenAt_low h _
theorem St.none {w w' : World} {g : Nat} {v : Value} (h : w.grownBy w' none) : St w g v w' v :=
  ⟨h.os, h.tape, h.output, h.size, fun k hk _ _ => h.block k hk (by simp), Fresh.same _ _⟩

set_option maxHeartbeats 1000000 in
set_option maxRecDepth 10000 in
theorem hput_any (K g B gw : Nat) (ls : List Nat) (s : Int) (m : List UInt8) (v : Value) (w : World) (hc : HC w K g ls) (hW : WM w B gw v m) (hB : B ≤ w.heap.size) (hL : m.length ≤ 7000000) :
    Calls Try.prog 58 #[.pointer (some ⟨g, 0, none⟩), .pointer (some ⟨gw, 0, none⟩), .int .i64 s] w fun e w' => e = .returned (errV (ofE ls s)) ∧ ∃ v', WM w' B gw v' (m ++ bitsO ls s) ∧ St w gw v w' v' := by
  have HC := Lib.hid hc
  have HW := Lib.hid hW
  have HL := Lib.hid hL
  have HB := Lib.hid hB
  have h15 := lenI_bound hc.low s
  have hpw := codeI_pow hc.low hc.ok s
  have hcb : codeI ls s < 32768 := Nat.lt_of_lt_of_le hpw (Nat.pow_le_pow_right (by decide) h15)
  clear hc hW hB hL
  go_enter Try.func58, Try.ntmps58
  go_wp2_with fail
  refine (of_any K g ls s w HC.out).mono ?_
  rintro e w1 ⟨rfl, m1, hw1⟩
  have hg1 : w.grownBy w1 none := by rw [hw1]; exact grown_drewN _ _
  have HW1 := Lib.hid (HW.out.kept hg1 (by simp) (ne_none v))
  have HS1 := Lib.hid (St.none (g := gw) (v := v) hg1)
  have HB1 : RowKit.Hid (B ≤ w1.heap.size) := Lib.hid (Nat.le_trans HB.out hg1.size)
  clear hg1 hw1 HC HW HB
  by_cases h0 : lenI ls s = 0
  · have HIF : RowKit.Hid (ofE ls s = 1) := Lib.hid (if_pos h0)
    have HZ : RowKit.Hid (bitsO ls s = []) := Lib.hid (by unfold bitsO; rw [h0]; rfl)
    rw [h0]
    clear h0 hpw h15
    go_wp2_with fail
    go_ret
    exact ⟨by rw [HIF.out]; rfl, v, by rw [HZ.out, List.append_nil]; exact HW1.out, HS1.out⟩
  · have HIF : RowKit.Hid (ofE ls s = 0) := Lib.hid (if_neg h0)
    have HOK : RowKit.Hid (okP (codeI ls s) (lenI ls s : Int) = true) := Lib.hid (decide_eq_true ⟨by omega, by omega, by rw [Int.toNat_natCast]; exact hpw⟩)
    have HBO : RowKit.Hid (putB true (codeI ls s) (lenI ls s : Int) = bitsO ls s) := Lib.hid (by rw [putB_high HOK.out, Int.toNat_natCast]; rfl)
    have HPE : RowKit.Hid (putE (codeI ls s) (lenI ls s : Int) = 0) := Lib.hid (putE_ok HOK.out)
    have hz : ((lenI ls s : Int) == 0) = false := by rw [beq_eq_false_iff_ne]; omega
    generalize codeI ls s = x at hcb HBO HPE ⊢
    generalize lenI ls s = k at h15 HBO HPE hz ⊢
    have hxm : (x : Int) % 4294967296 = (x : Int) := by omega
    clear h0 hpw HOK
    go_wp2_with fail
    refine (code_any B gw x k m v w1 HW1.out HB1.out (by omega) HL.out).mono ?_
    rintro e w2 ⟨rfl, v', hW2, hS2⟩
    rw [HPE.out]
    rw [HBO.out] at hW2
    have HF := Lib.hid (And.intro hW2 (HS1.out.trans hS2))
    clear hW2 hS2
    go_wp2_with fail
    go_ret
    exact ⟨by rw [HIF.out]; rfl, v', HF.out.1, HF.out.2⟩

/-- The block of a row that the call made holds cells of its kind. -/
theorem own_kind {w : World} {B : Nat} {e : TypeId} {sz : Nat} {v : Value} {n : Nat} {xs : List Value} (h : w.ownsRow B e sz v n xs) {k : Nat} (hk : v.ownBlock = some k) : ∃ cur, w.heap[k]? = some (.cells cur e (0, 0)) := by
  rcases h.2 with ⟨rfl, _⟩ | ⟨g, cap, cur, rfl, _, hh, _⟩
  · cases hk
  · have : g = k := by simpa [Value.ownBlock] using hk
    subst this
    exact ⟨cur, hh⟩
theorem own_apart {w : World} {B B' : Nat} {e e' : TypeId} {sz sz' : Nat} {v v' : Value} {n n' : Nat} {xs xs' : List Value} (h : w.ownsRow B e sz v n xs) (h' : w.ownsRow B' e' sz' v' n' xs') (he : e ≠ e') : v.ownBlock = none ∨ v.ownBlock ≠ v'.ownBlock := by
  cases hv : v.ownBlock with
  | none => exact .inl rfl
  | some k =>
    refine .inr fun hk => ?_
    obtain ⟨c1, h1⟩ := own_kind h hv
    obtain ⟨c2, h2⟩ := own_kind h' hk.symm
    rw [h1] at h2
    injection h2 with h2
    injection h2 with _ h3
    exact he h3
theorem own_notRow {w : World} {B : Nat} {e t : TypeId} {sz : Nat} {v : Value} {n g : Nat} {xs : List Value} {cs : Array Value} (h : w.ownsRow B e sz v n xs) (hr : Row w g cs t) (he : e ≠ t) : v.ownBlock ≠ some g := fun hk => by
  obtain ⟨c1, h1⟩ := own_kind h hk
  unfold Row at hr
  rw [hr] at h1
  injection h1 with h1
  injection h1 with _ h3
  exact he h3.symm
end Go.Proofs.Ytnadnokjhinmcaa
