
/- Contract of Put; rows of signs that the law made itself beside a writer and a reader. -/

/- A text's tokens as plain functions: by the chain of places that are alike, and by looking at each place; both are one. -/

/- Rows of tokens: a slice of tokens that reads as a list, one that the call made itself, append on it. -/
import Derived.Test.YtpnnlhegncbfaaaGreatDoorGroupF
import Derived.Test.YtpnnlhegncbfaaaGreatDoorGroupP
import Derived.Test.YtpnnlhegncbfaaaGreatDoorGroupA
import Derived.Test.YtpnnlhegncbfaaaGreatDoorGroupD
namespace Go.Proofs.YtpnnlhegncbfaaaGreatDoor
set_option maxRecDepth 20000
open Go.RowKit

/-- Which error Put has of a sign. -/
def ofE (ls : List Nat) (s : Int) : Nat := if lenI ls s = 0 then 1 else 0
/-- A sign's bits, as they are written. -/
def bitsO (ls : List Nat) (s : Int) : List UInt8 := (lowB (codeI ls s) (lenI ls s)).reverse
theorem bitsO_length (ls : List Nat) (s : Int) : (bitsO ls s).length = lenI ls s := by unfold bitsO; rw [List.length_reverse, lowB_length]
theorem bin_bitsO (ls : List Nat) (s : Int) : Bin (bitsO ls s) := bin_rev (bin_lowB _ _)
theorem codeI_pow {ls : List Nat} (hl : Low ls) (ho : okF (cnt ls)) (s : Int) : codeI ls s < 2 ^ lenI ls s := by
  unfold codeI lenI
  split
  · exact Nat.two_pow_pos _
  · exact code_pow hl ho _
theorem lenI_bound {ls : List Nat} (h : Low ls) (s : Int) : lenI ls s ≤ 15 := by
  unfold lenI
  split
  · omega
  · exact lenAt_low h _
theorem St.none {w w' : World} {g : Nat} {v : Value} (h : w.grownBy w' none) : St w g v w' v :=
  ⟨h.os, h.tape, h.output, h.size, fun k hk _ _ => h.block k hk (by simp), Fresh.same _ _⟩

set_option maxHeartbeats 1000000 in
set_option maxRecDepth 10000 in
theorem hput_any (K g B gw : Nat) (ls : List Nat) (s : Int) (m : List UInt8) (v : Value) (w : World) (hc : HC w K g ls) (hW : WM w B gw v m) (hB : B ≤ w.heap.size) (hL : m.length ≤ 7000000) :
    Calls Tryz.prog 81 #[.pointer (some ⟨g, 0, none⟩), .pointer (some ⟨gw, 0, none⟩), .int .i64 s] w fun e w' => e = .returned (errV (ofE ls s)) ∧ ∃ v', WM w' B gw v' (m ++ bitsO ls s) ∧ St w gw v w' v' := by
  have HC := Lib.hid hc
  have HW := Lib.hid hW
  have HL := Lib.hid hL
  have HB := Lib.hid hB
  have h15 := lenI_bound hc.low s
  have hpw := codeI_pow hc.low hc.ok s
  have hcb : codeI ls s < 32768 := Nat.lt_of_lt_of_le hpw (Nat.pow_le_pow_right (by decide) h15)
  clear hc hW hB hL
  go_enter Tryz.func81, Tryz.ntmps81
  go_wp2_with fail
  refine (of_any K g ls s w HC.out).mono ?_
  rintro e w1 ⟨rfl, m1, hw1⟩
  have hg1 : w.grownBy w1 none := by rw [hw1]; exact grown_drewN _ _
  have HW1 := Lib.hid (HW.out.kept hg1 (by simp) (ne_none v))
  have HS1 := Lib.hid (St.none (g := gw) (v := v) hg1)
  have HB1 : RowKit.Hid (B ≤ w1.heap.size) := Lib.hid (Nat.le_trans HB.out hg1.size)
  clear hg1 hw1 HC HW HB
  by_cases h0 : lenI ls s = 0
  · have HIF : RowKit.Hid (ofE ls s = 1) := Lib.hid (if_pos h0)
    have HZ : RowKit.Hid (bitsO ls s = []) := Lib.hid (by unfold bitsO; rw [h0]; rfl)
    rw [h0]
    clear h0 hpw h15
    go_wp2_with fail
    go_ret
    exact ⟨by rw [HIF.out]; rfl, v, by rw [HZ.out, List.append_nil]; exact HW1.out, HS1.out⟩
  · have HIF : RowKit.Hid (ofE ls s = 0) := Lib.hid (if_neg h0)
    have HOK : RowKit.Hid (okP (codeI ls s) (lenI ls s : Int) = true) := Lib.hid (decide_eq_true ⟨by omega, by omega, by rw [Int.toNat_natCast]; exact hpw⟩)
    have HBO : RowKit.Hid (putB true (codeI ls s) (lenI ls s : Int) = bitsO ls s) := Lib.hid (by rw [putB_high HOK.out, Int.toNat_natCast]; rfl)
    have HPE : RowKit.Hid (putE (codeI ls s) (lenI ls s : Int) = 0) := Lib.hid (putE_ok HOK.out)
    have hz : ((lenI ls s : Int) == 0) = false := by rw [beq_eq_false_iff_ne]; omega
    generalize codeI ls s = x at hcb HBO HPE ⊢
    generalize lenI ls s = k at h15 HBO HPE hz ⊢
    have hxm : (x : Int) % 4294967296 = (x : Int) := by omega
    clear h0 hpw HOK
    go_wp2_with fail
    refine (code_any B gw x k m v w1 HW1.out HB1.out (by omega) HL.out).mono ?_
    rintro e w2 ⟨rfl, v', hW2, hS2⟩
    rw [HPE.out]
    rw [HBO.out] at hW2
    have HF := Lib.hid (And.intro hW2 (HS1.out.trans hS2))
    clear hW2 hS2
    go_wp2_with fail
    go_ret
    exact ⟨by rw [HIF.out]; rfl, v', HF.out.1, HF.out.2⟩

/-- The block of a row that the call made holds cells of its kind. -/
theorem own_kind {w : World} {B : Nat} {e : TypeId} {sz : Nat} {v : Value} {n : Nat} {xs : List Value} (h : w.ownsRow B e sz v n xs) {k : Nat} (hk : v.ownBlock = some k) : ∃ cur, w.heap[k]? = some (.cells cur e (0, 0)) := by
  rcases h.2 with ⟨rfl, _⟩ | ⟨g, cap, cur, rfl, _, hh, _⟩
  · cases hk
  · have : g = k := by simpa [Value.ownBlock] using hk
    subst this
    exact ⟨cur, hh⟩
theorem own_apart {w : World} {B B' : Nat} {e e' : TypeId} {sz sz' : Nat} {v v' : Value} {n n' : Nat} {xs xs' : List Value} (h : w.ownsRow B e sz v n xs) (h' : w.ownsRow B' e' sz' v' n' xs') (he : e ≠ e') : v.ownBlock = none ∨ v.ownBlock ≠ v'.ownBlock := by
  cases hv : v.ownBlock with
  | none => exact .inl rfl
  | some k =>
    refine .inr fun hk => ?_
    obtain ⟨c1, h1⟩ := own_kind h hv
    obtain ⟨c2, h2⟩ := own_kind h' hk.symm
    rw [h1] at h2
    injection h2 with h2
    injection h2 with _ h3
    exact he h3
theorem own_notRow {w : World} {B : Nat} {e t : TypeId} {sz : Nat} {v : Value} {n g : Nat} {xs : List Value} {cs : Array Value} (h : w.ownsRow B e sz v n xs) (hr : Row w g cs t) (he : e ≠ t) : v.ownBlock ≠ some g := fun hk => by
  obtain ⟨c1, h1⟩ := own_kind h hk
  unfold Row at hr
  rw [hr] at h1
  injection h1 with h1
  injection h1 with _ h3
  exact he h3.symm
end Go.Proofs.YtpnnlhegncbfaaaGreatDoor
namespace Go.Proofs.YtpnnlhegncbfaaaGreatDoor
set_option maxRecDepth 20000

/-- A token. -/
structure Tk where
  b : UInt8
  l : Int
  d : Int
deriving DecidableEq
instance : Inhabited Tk := ⟨⟨0, 0, 0⟩⟩

/-- The three bytes from p on, as one number. -/
def key3 (t : List UInt8) (p : Nat) : Nat := (t.getD p 0).toNat + 256 * (t.getD (p + 1) 0).toNat + 65536 * (t.getD (p + 2) 0).toNat
theorem key3_lt (t : List UInt8) (p : Nat) : key3 t p < 16777216 := by
  unfold key3
  have h0 := (t.getD p 0).toNat_lt
  have h1 := (t.getD (p + 1) 0).toNat_lt
  have h2 := (t.getD (p + 2) 0).toNat_lt
  omega
theorem key3_eq {t : List UInt8} {p q : Nat} : key3 t p = key3 t q ↔ t.getD p 0 = t.getD q 0 ∧ t.getD (p + 1) 0 = t.getD (q + 1) 0 ∧ t.getD (p + 2) 0 = t.getD (q + 2) 0 := by
  have h0 := (t.getD p 0).toNat_lt
  have h1 := (t.getD (p + 1) 0).toNat_lt
  have h2 := (t.getD (p + 2) 0).toNat_lt
  have g0 := (t.getD q 0).toNat_lt
  have g1 := (t.getD (q + 1) 0).toNat_lt
  have g2 := (t.getD (q + 2) 0).toNat_lt
  rw [← UInt8.toNat_inj, ← UInt8.toNat_inj, ← UInt8.toNat_inj]
  unfold key3
  omega

/-- The newest place ahead of i that has these three bytes. -/
def newest (t : List UInt8) : Nat → Nat → Option Nat
  | 0, _ => none
  | i + 1, K => if i + 3 ≤ t.length ∧ key3 t i = K then some i else newest t i K
theorem newest_some {t : List UInt8} {K q : Nat} : ∀ {i : Nat}, newest t i K = some q → q < i ∧ q + 3 ≤ t.length ∧ key3 t q = K ∧ ∀ r, q < r → r < i → ¬ (r + 3 ≤ t.length ∧ key3 t r = K)
  | 0, h => by cases h
  | i + 1, h => by
    unfold newest at h
    split at h
    · rename_i h1
      injection h with h
      subst h
      exact ⟨by omega, h1.1, h1.2, fun r h2 h3 => by omega⟩
    · rename_i h1
      obtain ⟨a, b, c, d⟩ := newest_some h
      refine ⟨by omega, b, c, fun r h2 h3 => ?_⟩
      by_cases hr : r = i
      · subst hr; exact h1
      · exact d r h2 (by omega)
theorem newest_none {t : List UInt8} {K : Nat} : ∀ {i : Nat}, newest t i K = none → ∀ r, r < i → ¬ (r + 3 ≤ t.length ∧ key3 t r = K)
  | 0, _, r, h => by omega
  | i + 1, h, r, hr => by
    unfold newest at h
    split at h
    · cases h
    · rename_i h1
      by_cases e : r = i
      · subst e; exact h1
      · exact newest_none h r (by omega)
/-- The nearest place ahead that is alike. -/
def prevP (t : List UInt8) (i : Nat) : Option Nat := if i + 3 ≤ t.length then newest t i (key3 t i) else none
def alikeF (t : List UInt8) (i : Nat) : Int := match prevP t i with
  | some p => (p : Int)
  | none => -1

/-- How many bytes are the same from two places on, k at most. -/
def mt (t : List UInt8) (p q : Nat) : Nat → Nat → Nat
  | 0, n => n
  | k + 1, n => if t.getD (p + n) 0 = t.getD (q + n) 0 then mt t p q k (n + 1) else n
theorem mt_ge (t : List UInt8) (p q : Nat) : ∀ k n, n ≤ mt t p q k n ∧ mt t p q k n ≤ n + k
  | 0, n => by simp [mt]
  | k + 1, n => by
    unfold mt
    split
    · have := mt_ge t p q k (n + 1); omega
    · omega
def mlen (t : List UInt8) (p q most : Nat) : Nat := mt t p q most 0
theorem mlen_le (t : List UInt8) (p q most : Nat) : mlen t p q most ≤ most := by have := mt_ge t p q most 0; unfold mlen; omega
def mostF (T at_ : Nat) : Nat := min 258 (T - at_)
theorem mt_three {t : List UInt8} {p q k : Nat} : 3 ≤ mt t p q k 0 ↔ 3 ≤ k ∧ key3 t p = key3 t q := by
  rw [key3_eq]
  match k with
  | 0 => simp [mt]
  | 1 => unfold mt; split <;> simp [mt]
  | 2 =>
    unfold mt; split
    · unfold mt; split <;> simp [mt]
    · simp
  | k + 3 =>
    unfold mt
    split
    · rename_i h0
      unfold mt
      split
      · rename_i h1
        unfold mt
        split
        · rename_i h2
          have := (mt_ge t p q k 3).1
          simp only [Nat.add_zero, Nat.zero_add] at h0 h1 h2 ⊢
          exact ⟨fun _ => ⟨by omega, h0, h1, h2⟩, fun _ => this⟩
        · rename_i h2
          simp only [Nat.zero_add] at h2 ⊢
          exact ⟨fun h => by omega, fun h => absurd h.2.2.2 h2⟩
      · rename_i h1
        simp only [Nat.zero_add] at h1 ⊢
        exact ⟨fun h => by omega, fun h => absurd h.2.2.1 h1⟩
    · rename_i h0
      simp only [Nat.add_zero] at h0
      exact ⟨fun h => by omega, fun h => absurd h.2.1 h0⟩
theorem mlen_three {t : List UInt8} {q at_ : Nat} : 3 ≤ mlen t q at_ (mostF t.length at_) ↔ at_ + 3 ≤ t.length ∧ key3 t q = key3 t at_ := by
  unfold mlen
  rw [mt_three]
  unfold mostF
  omega

/-- By the chain. -/
def chainT (t : List UInt8) (at_ most : Nat) : Nat → Nat → Nat × Nat → Nat × Nat
  | 0, _, b => b
  | k + 1, p, b => match prevP t p with
    | none => b
    | some q => if 32768 < at_ - q ∨ b.1 = most then b else chainT t at_ most k q (if b.1 < mlen t q at_ most then (mlen t q at_ most, at_ - q) else b)
/-- By each place. -/
def lookR (t : List UInt8) (at_ most : Nat) : Nat → Nat → Nat × Nat → Nat × Nat
  | 0, _, b => b
  | p + 1, k, b => if at_ - p ≤ 32768 ∧ k < 64 then
      (if mlen t p at_ most < 3 then lookR t at_ most p k b else lookR t at_ most p (k + 1) (if b.1 < mlen t p at_ most then (mlen t p at_ most, at_ - p) else b))
    else b
section
variable {t : List UInt8} {at_ most : Nat}
theorem lookR_far : ∀ {p k : Nat} {b : Nat × Nat}, p ≤ at_ → 32768 < at_ - p + 1 ∨ 64 ≤ k → lookR t at_ most p k b = b
  | 0, _, _, _, _ => rfl
  | p + 1, k, b, hp, h => by
    unfold lookR
    rw [if_neg (by omega)]
theorem lookR_skip {p k : Nat} {b : Nat × Nat} (hp : p + 1 ≤ at_) (h : mlen t p at_ most < 3) : lookR t at_ most (p + 1) k b = lookR t at_ most p k b := by
  by_cases hc : at_ - p ≤ 32768 ∧ k < 64
  · rw [lookR, if_pos hc, if_pos h]
  · rw [lookR, if_neg hc, lookR_far (by omega) (by omega)]
theorem lookR_to {q k : Nat} {b : Nat × Nat} : ∀ {p : Nat}, q ≤ p → p ≤ at_ → (∀ r, q ≤ r → r < p → mlen t r at_ most < 3) → lookR t at_ most p k b = lookR t at_ most q k b
  | 0, h, _, _ => by rw [Nat.le_zero.1 h]
  | p + 1, h, hp, hr => by
    by_cases e : q = p + 1
    · rw [e]
    · rw [lookR_skip hp (hr p (by omega) (by omega)), lookR_to (by omega) (by omega) (fun r h1 h2 => hr r h1 (by omega))]
theorem lookR_full : ∀ {p k : Nat} {b : Nat × Nat}, b.1 = most → lookR t at_ most p k b = b
  | 0, _, _, _ => rfl
  | p + 1, k, b, h => by
    have := mlen_le t p at_ most
    unfold lookR
    split
    · split
      · exact lookR_full h
      · rw [if_neg (by omega)]; exact lookR_full h
    · rfl
end
theorem chain_look {t : List UInt8} {at_ : Nat} (ha : at_ + 3 ≤ t.length) : ∀ {k p : Nat} {b : Nat × Nat}, k ≤ 64 → p ≤ at_ → p + 3 ≤ t.length → key3 t p = key3 t at_ → b.1 ≤ mostF t.length at_ →
    chainT t at_ (mostF t.length at_) k p b = lookR t at_ (mostF t.length at_) p (64 - k) b
  | 0, p, b, _, hp, _, _, _ => by rw [lookR_far hp (.inr (by omega))]; rfl
  | k + 1, p, b, hk, hp, hp3, he, hb => by
    unfold chainT prevP
    rw [if_pos hp3, he]
    cases hn : newest t p (key3 t at_) with
    | none =>
      have h1 := newest_none hn
      show b = _
      rw [lookR_to (q := 0) (Nat.zero_le _) hp (fun r _ hr => by
        have := h1 r hr
        have h3 : ¬ 3 ≤ mlen t r at_ (mostF t.length at_) := fun h => this ⟨by omega, (mlen_three.1 h).2⟩
        omega)]
      rfl
    | some q =>
      obtain ⟨h1, h2, h3, h4⟩ := newest_some hn
      have hlen : 3 ≤ mlen t q at_ (mostF t.length at_) := mlen_three.2 ⟨ha, h3⟩
      show (if 32768 < at_ - q ∨ b.1 = mostF t.length at_ then b else _) = _
      rw [lookR_to (q := q + 1) (by omega) hp (fun r hr hr2 => by
        have := h4 r (by omega) hr2
        have h3 : ¬ 3 ≤ mlen t r at_ (mostF t.length at_) := fun h => this ⟨by omega, (mlen_three.1 h).2⟩
        omega)]
      rw [lookR]
      by_cases hfar : 32768 < at_ - q
      · rw [if_pos (.inl hfar), if_neg (by omega)]
      · have e3 : ¬ mlen t q at_ (mostF t.length at_) < 3 := by omega
        rw [if_pos (show at_ - q ≤ 32768 ∧ 64 - (k + 1) < 64 by omega), if_neg e3]
        by_cases hm : b.1 = mostF t.length at_
        · have e4 : ¬ b.1 < mlen t q at_ (mostF t.length at_) := by have := mlen_le t q at_ (mostF t.length at_); omega
          rw [if_pos (show 32768 < at_ - q ∨ b.1 = mostF t.length at_ from .inr hm), if_neg e4, lookR_full hm]
        · rw [if_neg (show ¬ (32768 < at_ - q ∨ b.1 = mostF t.length at_) by omega), show 64 - (k + 1) + 1 = 64 - k by omega]
          refine chain_look ha (by omega) (by omega) h2 h3 ?_
          split
          · exact mlen_le _ _ _ _
          · exact hb
/-- The longest match. -/
def bestT (t : List UInt8) (at_ : Nat) : Nat × Nat := chainT t at_ (mostF t.length at_) 64 at_ (0, 0)
theorem best_look (t : List UInt8) (at_ : Nat) : bestT t at_ = lookR t at_ (mostF t.length at_) at_ 0 (0, 0) := by
  unfold bestT
  by_cases ha : at_ + 3 ≤ t.length
  · exact chain_look ha (Nat.le_refl _) (Nat.le_refl _) ha rfl (Nat.zero_le _)
  · rw [lookR_to (q := 0) (Nat.zero_le _) (Nat.le_refl _) (fun r _ _ => by
      have h3 : ¬ 3 ≤ mlen t r at_ (mostF t.length at_) := fun h => ha (mlen_three.1 h).1
      omega)]
    show chainT _ _ _ (63 + 1) _ _ = _
    unfold chainT prevP
    rw [if_neg ha]
    rfl
/-- The token at a place. -/
def tokF (t : List UInt8) (at_ : Nat) (b : Nat × Nat) : Tk := if b.1 = 0 then ⟨t.getD at_ 0, 0, 0⟩ else ⟨0, (b.1 : Int), (b.2 : Int)⟩
def tokAt (t : List UInt8) (at_ : Nat) : Tk := tokF t at_ (bestT t at_)
def stepT (t : List UInt8) (at_ : Nat) : Nat := max 1 (bestT t at_).1
/-- A text's tokens from a place on (F: how many at most). -/
def toksF (t : List UInt8) : Nat → Nat → List Tk
  | 0, _ => []
  | F + 1, at_ => if at_ < t.length then tokAt t at_ :: toksF t F (at_ + stepT t at_) else []
def toksT (t : List UInt8) : List Tk := toksF t t.length 0
theorem toksF_more {t : List UInt8} : ∀ {F G at_ : Nat}, t.length - at_ ≤ F → t.length - at_ ≤ G → toksF t F at_ = toksF t G at_
  | 0, 0, _, _, _ => rfl
  | 0, G + 1, at_, h, _ => by unfold toksF; rw [if_neg (by omega)]
  | F + 1, 0, at_, _, h => by unfold toksF; rw [if_neg (by omega)]
  | F + 1, G + 1, at_, h1, h2 => by
    unfold toksF
    split
    · have : 1 ≤ stepT t at_ := Nat.le_max_left ..
      rw [toksF_more (F := F) (G := G) (by omega) (by omega)]
    · rfl

/-- What is known of the longest match: how the two bounds of a token are met. -/
theorem chain_good {t : List UInt8} {at_ most : Nat} : ∀ {k p : Nat} {b : Nat × Nat}, p ≤ at_ → (b.1 = 0 ∨ (b.1 ≤ most ∧ 1 ≤ b.2 ∧ b.2 ≤ at_ ∧ b.2 ≤ 32768 ∧ mlen t (at_ - b.2) at_ most = b.1)) →
    (chainT t at_ most k p b).1 = 0 ∨ ((chainT t at_ most k p b).1 ≤ most ∧ 1 ≤ (chainT t at_ most k p b).2 ∧ (chainT t at_ most k p b).2 ≤ at_ ∧ (chainT t at_ most k p b).2 ≤ 32768 ∧ mlen t (at_ - (chainT t at_ most k p b).2) at_ most = (chainT t at_ most k p b).1)
  | 0, _, _, _, h => h
  | k + 1, p, b, hp, h => by
    unfold chainT prevP
    by_cases hp3 : p + 3 ≤ t.length
    · rw [if_pos hp3]
      cases hn : newest t p (key3 t p) with
      | none => exact h
      | some q =>
        obtain ⟨h1, h2, h3, h4⟩ := newest_some hn
        show (if 32768 < at_ - q ∨ b.1 = most then b else _).1 = 0 ∨ _
        by_cases hc : 32768 < at_ - q ∨ b.1 = most
        · simp only [if_pos hc]; exact h
        · simp only [if_neg hc]
          refine chain_good (by omega) ?_
          split
          · refine .inr ⟨mlen_le _ _ _ _, ?_, ?_, ?_, ?_⟩
            · show 1 ≤ at_ - q; omega
            · show at_ - q ≤ at_; omega
            · show at_ - q ≤ 32768; omega
            · show mlen t (at_ - (at_ - q)) at_ most = mlen t q at_ most
              rw [show at_ - (at_ - q) = q by omega]
          · exact h
    · rw [if_neg hp3]; exact h
theorem best_good (t : List UInt8) (at_ : Nat) : (bestT t at_).1 = 0 ∨ ((bestT t at_).1 ≤ mostF t.length at_ ∧ 1 ≤ (bestT t at_).2 ∧ (bestT t at_).2 ≤ at_ ∧ (bestT t at_).2 ≤ 32768 ∧ mlen t (at_ - (bestT t at_).2) at_ (mostF t.length at_) = (bestT t at_).1) :=
  chain_good (Nat.le_refl _) (.inl rfl)
end Go.Proofs.YtpnnlhegncbfaaaGreatDoor
namespace Go.Proofs.YtpnnlhegncbfaaaGreatDoor
set_option maxRecDepth 20000
open Go.RowKit

def tokC (a : Tk) : List Value := [U8 a.b, .int .i64 a.l, .int .i64 a.d]
abbrev tokV (a : Tk) : Value := .agg #[U8 a.b, .int .i64 a.l, .int .i64 a.d]
def toksC : List Tk → List Value
  | [] => []
  | o :: r => tokC o ++ toksC r
theorem toksC_append (a b : List Tk) : toksC (a ++ b) = toksC a ++ toksC b := by
  induction a with
  | nil => rfl
  | cons x a ih => simp [toksC, ih]
theorem toksC_length (a : List Tk) : (toksC a).length = a.length * 3 := by
  induction a with
  | nil => rfl
  | cons x a ih => simp [toksC, tokC, ih]; omega
theorem toksC_one (l : List Tk) : ∀ u ∈ toksC l, u.oneCell' = true := by
  induction l with
  | nil => intro u hu; cases hu
  | cons x a ih =>
    intro u hu
    rcases List.mem_append.1 hu with h | h
    · simp only [tokC, List.mem_cons, List.not_mem_nil, or_false] at h
      rcases h with rfl | rfl | rfl <;> rfl
    · exact ih u h
theorem toksC_at : ∀ (l : List Tk) (i : Nat) (x : Tk), l[i]? = some x → ∀ j u, (tokC x)[j]? = some u → (toksC l)[i * 3 + j]? = some u
  | y :: r, 0, x, h, j, u, hu => by
    injection h with h
    subst h
    rw [toksC, List.getElem?_append_left (by have := (List.getElem?_eq_some_iff.1 hu).1; simpa using this)]
    simpa using hu
  | y :: r, i + 1, x, h, j, u, hu => by
    rw [toksC, List.getElem?_append_right (by simp [tokC]; omega)]
    have := toksC_at r i x (by simpa using h) j u hu
    rw [show (i + 1) * 3 + j - (tokC y).length = i * 3 + j by simp [tokC]; omega]
    exact this

theorem info45 : (Tryz.prog.info? 108).map (fun i => (i.zero, i.size, i.bytes)) = some (some (.agg #[.int .u8 0, .int .i64 0, .int .i64 0]), 3, 24) := by kernel_rfl
/-- A slice of tokens that reads as a list; where it is not empty it lies below block B. -/
def RdT (w : World) (B : Nat) (A : Option Addr) (n : Nat) (l : List Tk) : Prop :=
  l.length = n ∧ (0 < n → ∃ g o, A = some ⟨g, o, none⟩ ∧ g < B ∧ ∀ i x, l[i]? = some x → ∀ j u, (tokC x)[j]? = some u → w.cell? ⟨g, o + (i * 3 + j), none⟩ = some u)
theorem RdT.cells {w : World} {B : Nat} {A : Option Addr} {n : Nat} {l : List Tk} (h : RdT w B A n l) {k : Nat} (hk : k < n) :
    ∃ g o a, A = some ⟨g, o, none⟩ ∧ g < B ∧ l[k]? = some a ∧ w.cell? ⟨g, o + k * 3, none⟩ = some (.int .u8 (a.b.toNat : Int)) ∧ w.cell? ⟨g, o + k * 3 + 1, none⟩ = some (.int .i64 a.l) ∧ w.cell? ⟨g, o + k * 3 + 2, none⟩ = some (.int .i64 a.d) := by
  obtain ⟨g, o, rfl, hg, hc⟩ := h.2 (by omega)
  have hl : k < l.length := by rw [h.1]; exact hk
  have hc := hc k _ (List.getElem?_eq_getElem hl)
  refine ⟨g, o, l[k], rfl, hg, List.getElem?_eq_getElem hl, hc 0 _ rfl, ?_, ?_⟩
  · rw [Nat.add_assoc]; exact hc 1 _ rfl
  · rw [Nat.add_assoc]; exact hc 2 _ rfl
theorem RdT.below {w w' : World} {B : Nat} {A : Option Addr} {n : Nat} {l : List Tk} (h : RdT w B A n l) (hb : Below B w w') : RdT w' B A n l := by
  refine ⟨h.1, fun hn => ?_⟩
  obtain ⟨g, o, rfl, hg, hc⟩ := h.2 hn
  exact ⟨g, o, rfl, hg, fun i x hi j u hu => (hb.cell (p := ⟨g, o + (i * 3 + j), none⟩) hg).trans (hc i x hi j u hu)⟩
theorem RdT.more {w : World} {B B' : Nat} {A : Option Addr} {n : Nat} {l : List Tk} (h : RdT w B A n l) (hB : B ≤ B') : RdT w B' A n l := by
  refine ⟨h.1, fun hn => ?_⟩
  obtain ⟨g, o, rfl, hg, hc⟩ := h.2 hn
  exact ⟨g, o, rfl, by omega, hc⟩

/-- A row of tokens that the call made itself (e: the element's type). -/
def OwnT (e : TypeId) (w : World) (B : Nat) (v : Value) (l : List Tk) : Prop := w.ownsRow B e 3 v l.length (toksC l)
theorem ne_noneT (v : Value) : v.ownBlock = none ∨ v.ownBlock ≠ none := by cases v.ownBlock <;> simp
theorem OwnT.nil (e : TypeId) (w : World) (B : Nat) : OwnT e w B (.slice none 0 0) [] := World.ownsRow_nil w B e 3
theorem OwnT.lit0 (e : TypeId) (w : World) (B : Nat) (hB : B ≤ w.heap.size) : OwnT e (w.alloc (.cells #[] e)) B (.slice (some ⟨w.heap.size, 0, none⟩) 0 0) [] :=
  ⟨rfl, .inr ⟨w.heap.size, 0, #[], rfl, hB, heap_alloc_new w _, Nat.le_refl _, by unfold maxLen; omega, rfl, rfl⟩⟩
theorem OwnT.rd {e : TypeId} {w : World} {B : Nat} {v : Value} {l : List Tk} (h : OwnT e w B v l) : ∃ A c, v = .slice A l.length c ∧ (A = none → c = 0) ∧ RdT w w.heap.size A l.length l := by
  rcases h.2 with ⟨hv, hn⟩ | ⟨g, cap, cur, hv, hb, hg, rest⟩
  · exact ⟨none, 0, by rw [hv, hn], fun _ => rfl, ⟨rfl, fun h0 => by omega⟩⟩
  · have hlt := (Array.getElem?_eq_some_iff.1 hg).1
    refine ⟨_, _, hv, (fun h => by cases h), ⟨rfl, fun _ => ⟨g, 0, rfl, hlt, fun i x hx j u hu => ?_⟩⟩⟩
    have := World.ownsRow.cells h (g := g) (by rw [hv]; rfl) (i * 3 + j) u (toksC_at l i x hx j u hu)
    rw [Go.WideShapes.add_plain] at this
    exact this
theorem OwnT.slice {e : TypeId} {w : World} {B : Nat} {v : Value} {l : List Tk} (h : OwnT e w B v l) : ∃ A c, v = .slice A l.length c := by
  obtain ⟨A, c, h1, _⟩ := h.rd
  exact ⟨A, c, h1⟩

/-- append(list, t) of a token that was just laid in a block of its own. -/
theorem pushT {ops : Array Oper} {rest : List Oper} {o : Oper} {a : Act} {Q : Exit → Act → World → Prop} (S e : TypeId) (hu : Tryz.prog.underlying S = some (.slice e))
    (hif : (Tryz.prog.info? e).map (fun i => (i.zero, i.size, i.bytes)) = some (some (.agg #[.int .u8 0, .int .i64 0, .int .i64 0]), 3, 24))
    (w0 : World) (H : Nat) (hH : w0.heap.size = H) (hgd : o.guard = none) (s x : Operand)
    (ho : o.op = .call { callee := .builtin .append, args := #[s, x], argTypes := #[S, S] })
    (B : Nat) (v : Value) (l : List Tk) (b : Tk) (cs : Array Value) (hs : a.eval s = v) (hx : a.eval x = .slice (some ⟨H, 0, none⟩) 1 1)
    (hown : OwnT e w0 B v l) (hcs : cs.toList = tokC b) (hB : B ≤ w0.heap.size) (hl : l.length ≤ 1000000)
    (h : ∀ v' w', OwnT e w' B v' (l ++ [b]) → w0.grownBy w' v.ownBlock → wpList Tryz.prog ops Q rest (a.put o.dst v') w') :
    wpList Tryz.prog ops Q (o :: rest) a (w0.alloc (.cells cs e)) := by
  subst hH
  obtain ⟨i0, hi, hz0, hz1, hz2⟩ := info_parts hif
  have hc1 : tokC b = toksC [b] := by simp [toksC]
  refine wpList_append_own_at _ hgd s x S ho B e i0 _ 3 24 hu hi hz0 hz1 hz2 rfl (by decide) v l.length (toksC l) hs (World.ownsRow.alloc hown _)
    ⟨w0.heap.size, 0, none⟩ 1 1 (toksC [b]) hx (by rw [toksC_length]; rfl) ?_ (toksC_one _) (by unfold maxLen; omega) (by omega) (by simp; omega) ?_
  · rw [← hc1, ← hcs]; exact cells_new w0 cs e
  · intro v' w' h1 h2 _ _
    refine h v' w' ?_ ((World.grownBy_alloc w0 _ _).trans h2)
    unfold OwnT
    rw [List.length_append, toksC_append]
    exact h1

/-- An array of n numbers that may be below 0. -/
def ib (f : Nat → Int) (n : Nat) : Array Value := ((List.range n).map fun i => Value.int .i64 (f i)).toArray
theorem ib_size (f : Nat → Int) (n : Nat) : (ib f n).size = n := by simp [ib]
theorem ib_at (f : Nat → Int) {n i : Nat} (h : i < n) : (ib f n)[i]? = some (.int .i64 (f i)) := by simp [ib, List.getElem?_range h]
def updI (f : Nat → Int) (i : Nat) (v : Int) : Nat → Int := fun j => if j = i then v else f j
theorem ib_set (f : Nat → Int) (n i : Nat) (v : Int) : (ib f n).setIfInBounds i (.int .i64 v) = ib (updI f i v) n := by
  apply Array.ext_getElem?
  intro j
  rcases Nat.lt_or_ge j n with h | h
  · rw [ib_at _ h, Array.getElem?_setIfInBounds]
    by_cases hj : i = j
    · subst hj; rw [if_pos rfl, if_pos (by rw [ib_size]; exact h)]; simp [updI]
    · rw [if_neg hj, ib_at _ h]; simp [updI, Ne.symm hj]
  · rw [Array.getElem?_eq_none (by rw [Array.size_setIfInBounds, ib_size]; exact h), Array.getElem?_eq_none (by rw [ib_size]; exact h)]
theorem ib_congr {f g : Nat → Int} {n : Nat} (h : ∀ i, i < n → f i = g i) : ib f n = ib g n := by
  unfold ib
  congr 1
  apply List.map_congr_left
  intro i hi
  rw [h i (List.mem_range.1 hi)]
theorem Row.ib {w : World} {g n t : Nat} {f : Nat → Int} (h : Row w g (ib f n) t) {i : Nat} (hi : i < n) : w.cell? ⟨g, i, none⟩ = some (.int .i64 (f i)) := by rw [h.cell, ib_at _ hi]
theorem Row.ibSet {w : World} {g n t : Nat} {f : Nat → Int} (h : Row w g (Go.Proofs.YtpnnlhegncbfaaaGreatDoor.ib f n) t) (i : Nat) (v : Int) : Row (w.setCell ⟨g, i, none⟩ (.int .i64 v)) g (Go.Proofs.YtpnnlhegncbfaaaGreatDoor.ib (updI f i v) n) t := by
  rw [← ib_set]; exact h.set i _
/-- A new row of zeros, as a list of cells. -/
theorem zeros_ib (n : Nat) : madeCells #[.int .i64 0] n = ib (fun _ => 0) n := by
  apply Array.toList_inj.1
  rw [toList_madeCells_one]
  simp [ib, List.map_const']
end Go.Proofs.YtpnnlhegncbfaaaGreatDoor
