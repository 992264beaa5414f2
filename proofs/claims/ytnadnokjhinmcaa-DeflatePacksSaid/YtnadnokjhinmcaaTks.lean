/- A text's tokens as plain functions: by the chain of places that are alike, and by looking at each place; both are one. -/
import Derived.Test.YtnadnokjhinmcaaPure
namespace Go.Proofs.Ytnadnokjhinmcaa

/-- A token. -/
structure Tk where
  b : UInt8
  l : Int
  d : Int
deriving DecidableEq
instance : Inhabited Tk := ⟨⟨0, 0, 0⟩⟩

/-- The three bytes from p on, as one number. -/
def key3 (t : List UInt8) (p : Nat) : Nat := (t.getD p 0).toNat + 256 * (t.getD (p + 1) 0).toNat + 65536 * (t.getD (p + 2) 0).toNat
theorem key3_lt (t : List UInt8) (p : Nat) : key3 t p < 16777216 := by
  unfold key3
  have h0 := (t.getD p 0).toNat_lt
  have h1 := (t.getD (p + 1) 0).toNat_lt
  have h2 := (t.getD (p + 2) 0).toNat_lt
  omega
theorem key3_eq {t : List UInt8} {p q : Nat} : key3 t p = key3 t q ↔ t.getD p 0 = t.getD q 0 ∧ t.getD (p + 1) 0 = t.getD (q + 1) 0 ∧ t.getD (p + 2) 0 = t.getD (q + 2) 0 := by
  have h0 := (t.getD p 0).toNat_lt
  have h1 := (t.getD (p + 1) 0).toNat_lt
  have h2 := (t.getD (p + 2) 0).toNat_lt
  have g0 := (t.getD q 0).toNat_lt
  have g1 := (t.getD (q + 1) 0).toNat_lt
  have g2 := (t.getD (q + 2) 0).toNat_lt
  rw [← UInt8.toNat_inj, ← UInt8.toNat_inj, ← UInt8.toNat_inj]
  unfold key3
  omega

/-- The newest place ahead of i that has these three bytes. -/
def newest (t : List UInt8) : Nat → Nat → Option Nat
  | 0, _ => none
  | i + 1, K => if i + 3 ≤ t.length ∧ key3 t i = K then some i else newest t i K
theorem newest_some {t : List UInt8} {K q : Nat} : ∀ {i : Nat}, newest t i K = some q → q < i ∧ q + 3 ≤ t.length ∧ key3 t q = K ∧ ∀ r, q < r → r < i → ¬ (r + 3 ≤ t.length ∧ key3 t r = K)
  | 0, h => by cases h
  | i + 1, h => by
    unfold newest at h
    split at h
    · rename_i h1
      injection h with h
      subst h
      exact ⟨by omega, h1.1, h1.2, fun r h2 h3 => by omega⟩
    · rename_i h1
      obtain ⟨a, b, c, d⟩ := newest_some h
      refine ⟨by omega, b, c, fun r h2 h3 => ?_⟩
      by_cases hr : r = i
      · subst hr; exact h1
      · exact d r h2 (by omega)
theorem newest_none {t : List UInt8} {K : Nat} : ∀ {i : Nat}, newest t i K = none → ∀ r, r < i → ¬ (r + 3 ≤ t.length ∧ key3 t r = K)
  | 0, _, r, h => by omega
  | i + 1, h, r, hr => by
    unfold newest at h
    split at h
    · cases h
    · rename_i h1
      by_cases e : r = i
      · subst e; exact h1
      · exact newest_none h r (by omega)
/-- The nearest place ahead that is alike. -/
def prevP (t : List UInt8) (i : Nat) : Option Nat := if i + 3 ≤ t.length then newest t i (key3 t i) else none
def alikeF (t : List UInt8) (i : Nat) : Int := match prevP t i with
  | some p => (p : Int)
  | none => -1

/-- How many bytes are the same from two places on, k at most. -/
def mt (t : List UInt8) (p q : Nat) : Nat → Nat → Nat
  | 0, n => n
  | k + 1, n => if t.getD (p + n) 0 = t.getD (q + n) 0 then mt t p q k (n + 1) else n
theorem mt_ge (t : List UInt8) (p q : Nat) : ∀ k n, n ≤ mt t p q k n ∧ mt t p q k n ≤ n + k
  | 0, n => by simp [mt]
  | k + 1, n => by
    unfold mt
    split
    · have := mt_ge t p q k (n + 1); omega
    · omega
def mlen (t : List UInt8) (p q most : Nat) : Nat := mt t p q most 0
theorem mlen_le (t : List UInt8) (p q most : Nat) : mlen t p q most ≤ most := by have := mt_ge t p q most 0; unfold mlen; omega
def mostF (T at_ : Nat) : Nat := min 258 (T - at_)
theorem mt_three {t : List UInt8} {p q k : Nat} : 3 ≤ mt t p q k 0 ↔ 3 ≤ k ∧ key3 t p = key3 t q := by
  rw [key3_eq]
  match k with
  | 0 => simp [mt]
  | 1 => unfold mt; split <;> simp [mt]
  | 2 =>
    unfold mt; split
    · unfold mt; split <;> simp [mt]
    · simp
  | k + 3 =>
    unfold mt
    split
    · rename_i h0
      unfold mt
      split
      · rename_i h1
        unfold mt
        split
        · rename_i h2
          have := (mt_ge t p q k 3).1
          simp only [Nat.add_zero, Nat.zero_add] at h0 h1 h2 ⊢
          exact ⟨fun _ => ⟨by omega, h0, h1, h2⟩, fun _ => this⟩
        · rename_i h2
          simp only [Nat.zero_add] at h2 ⊢
          exact ⟨fun h => by omega, fun h => absurd h.2.2.2 h2⟩
      · rename_i h1
        simp only [Nat.zero_add] at h1 ⊢
        exact ⟨fun h => by omega, fun h => absurd h.2.2.1 h1⟩
    · rename_i h0
      simp only [Nat.add_zero] at h0
      exact ⟨fun h => by omega, fun h => absurd h.2.1 h0⟩
theorem mlen_three {t : List UInt8} {q at_ : Nat} : 3 ≤ mlen t q at_ (mostF t.length at_) ↔ at_ + 3 ≤ t.length ∧ key3 t q = key3 t at_ := by
  unfold mlen
  rw [mt_three]
  unfold mostF
  omega

/-- By the chain. -/
def chainT (t : List UInt8) (at_ most : Nat) : Nat → Nat → Nat × Nat → Nat × Nat
  | 0, _, b => b
  | k + 1, p, b => match prevP t p with
    | none => b
    | some q => if 32768 < at_ - q ∨ b.1 = most then b else chainT t at_ most k q (if b.1 < mlen t q at_ most then (mlen t q at_ most, at_ - q) else b)
/-- By each place. -/
def lookR (t : List UInt8) (at_ most : Nat) : Nat → Nat → Nat × Nat → Nat × Nat
  | 0, _, b => b
  | p + 1, k, b => if at_ - p ≤ 32768 ∧ k < 64 then
      (if mlen t p at_ most < 3 then lookR t at_ most p k b else lookR t at_ most p (k + 1) (if b.1 < mlen t p at_ most then (mlen t p at_ most, at_ - p) else b))
    else b
section
variable {t : List UInt8} {at_ most : Nat}
theorem lookR_far : ∀ {p k : Nat} {b : Nat × Nat}, p ≤ at_ → 32768 < at_ - p + 1 ∨ 64 ≤ k → lookR t at_ most p k b = b
  | 0, _, _, _, _ => rfl
  | p + 1, k, b, hp, h => by
    unfold lookR
    rw [if_neg (by omega)]
theorem lookR_skip {p k : Nat} {b : Nat × Nat} (hp : p + 1 ≤ at_) (h : mlen t p at_ most < 3) : lookR t at_ most (p + 1) k b = lookR t at_ most p k b := by
  by_cases hc : at_ - p ≤ 32768 ∧ k < 64
  · rw [lookR, if_pos hc, if_pos h]
  · rw [lookR, if_neg hc, lookR_far (by omega) (by omega)]
theorem lookR_to {q k : Nat} {b : Nat × Nat} : ∀ {p : Nat}, q ≤ p → p ≤ at_ → (∀ r, q ≤ r → r < p → mlen t r at_ most < 3) → lookR t at_ most p k b = lookR t at_ most q k b
  | 0, h, _, _ => by rw [Nat.le_zero.1 h]
  | p + 1, h, hp, hr => by
    by_cases e : q = p + 1
    · rw [e]
    · rw [lookR_skip hp (hr p (by omega) (by omega)), lookR_to (by omega) (by omega) (fun r h1 h2 => hr r h1 (by omega))]
theorem lookR_full : ∀ {p k : Nat} {b : Nat × Nat}, b.1 = most → lookR t at_ most p k b = b
  | 0, _, _, _ => rfl
  | p + 1, k, b, h => by
    have := mlen_le t p at_ most
    unfold lookR
    split
    · split
      · exact lookR_full h
      · rw [if_neg (by omega)]; exact lookR_full h
    · rfl
end
theorem chain_look {t : List UInt8} {at_ : Nat} (ha : at_ + 3 ≤ t.length) : ∀ {k p : Nat} {b : Nat × Nat}, k ≤ 64 → p ≤ at_ → p + 3 ≤ t.length → key3 t p = key3 t at_ → b.1 ≤ mostF t.length at_ →
    chainT t at_ (mostF t.length at_) k p b = lookR t at_ (mostF t.length at_) p (64 - k) b
  | 0, p, b, _, hp, _, _, _ => by rw [lookR_far hp (.inr (by omega))]; rfl
  | k + 1, p, b, hk, hp, hp3, he, hb => by
    unfold chainT prevP
    rw [if_pos hp3, he]
    cases hn : newest t p (key3 t at_) with
    | none =>
      have h1 := newest_none hn
      show b = _
      rw [lookR_to (q := 0) (Nat.zero_le _) hp (fun r _ hr => by
        have := h1 r hr
        have h3 : ¬ 3 ≤ mlen t r at_ (mostF t.length at_) := fun h => this ⟨by omega, (mlen_three.1 h).2⟩
        omega)]
      rfl
    | some q =>
      obtain ⟨h1, h2, h3, h4⟩ := newest_some hn
      have hlen : 3 ≤ mlen t q at_ (mostF t.length at_) := mlen_three.2 ⟨ha, h3⟩
      show (if 32768 < at_ - q ∨ b.1 = mostF t.length at_ then b else _) = _
      rw [lookR_to (q := q + 1) (by omega) hp (fun r hr hr2 => by
        have := h4 r (by omega) hr2
        have h3 : ¬ 3 ≤ mlen t r at_ (mostF t.length at_) := fun h => this ⟨by omega, (mlen_three.1 h).2⟩
        omega)]
      rw [lookR]
      by_cases hfar : 32768 < at_ - q
      · rw [if_pos (.inl hfar), if_neg (by omega)]
      · have e3 : ¬ mlen t q at_ (mostF t.length at_) < 3 := by omega
        rw [if_pos (show at_ - q ≤ 32768 ∧ 64 - (k + 1) < 64 by omega), if_neg e3]
        by_cases hm : b.1 = mostF t.length at_
        · have e4 : ¬ b.1 < mlen t q at_ (mostF t.length at_) := by have := mlen_le t q at_ (mostF t.length at_); omega
          rw [if_pos (show 32768 < at_ - q ∨ b.1 = mostF t.length at_ from .inr hm), if_neg e4, lookR_full hm]
        · rw [if_neg (show ¬ (32768 < at_ - q ∨ b.1 = mostF t.length at_) by omega), show 64 - (k + 1) + 1 = 64 - k by omega]
          refine chain_look ha (by omega) (by omega) h2 h3 ?_
          split
          · exact mlen_le _ _ _ _
          · exact hb
/-- The longest match. -/
def bestT (t : List UInt8) (at_ : Nat) : Nat × Nat := chainT t at_ (mostF t.length at_) 64 at_ (0, 0)
theorem best_look (t : List UInt8) (at_ : Nat) : bestT t at_ = lookR t at_ (mostF t.length at_) at_ 0 (0, 0) := by
  unfold bestT
  by_cases ha : at_ + 3 ≤ t.length
  · exact chain_look ha (Nat.le_refl _) (Nat.le_refl _) ha rfl (Nat.zero_le _)
  · rw [lookR_to (q := 0) (Nat.zero_le _) (Nat.le_refl _) (fun r _ _ => by
      have h3 : ¬ 3 ≤ mlen t r at_ (mostF t.length at_) := fun h => ha (mlen_three.1 h).1
      omega)]
    show chainT _ _ _ (63 + 1) _ _ = _
    unfold chainT prevP
    rw [if_neg ha]
    rfl
/-- The token at a place. -/
def tokF (t : List UInt8) (at_ : Nat) (b : Nat × Nat) : Tk := if b.1 = 0 then ⟨t.getD at_ 0, 0, 0⟩ else ⟨0, (b.1 : Int), (b.2 : Int)⟩
def tokAt (t : List UInt8) (at_ : Nat) : Tk := tokF t at_ (bestT t at_)
def stepT (t : List UInt8) (at_ : Nat) : Nat := max 1 (bestT t at_).1
/-- A text's tokens from a place on (F: how many at most). -/
def toksF (t : List UInt8) : Nat → Nat → List Tk
  | 0, _ => []
  | F + 1, at_ => if at_ < t.length then tokAt t at_ :: toksF t F (at_ + stepT t at_) else []
def toksT (t : List UInt8) : List Tk := toksF t t.length 0
theorem toksF_more {t : List UInt8} : ∀ {F G at_ : Nat}, t.length - at_ ≤ F → t.length - at_ ≤ G → toksF t F at_ = toksF t G at_
  | 0, 0, _, _, _ => rfl
  | 0, G + 1, at_, h, _ => by unfold toksF; rw [if_neg (by omega)]
  | F + 1, 0, at_, _, h => by unfold toksF; rw [if_neg (by omega)]
  | F + 1, G + 1, at_, h1, h2 => by
    unfold toksF
    split
    · have : 1 ≤ stepT t at_ := Nat.le_max_left ..
      rw [toksF_more (F := F) (G := G) (by omega) (by omega)]
    · rfl

/-- What is known of the longest match: how the two bounds of a token are met. -/
theorem chain_good {t : List UInt8} {at_ most : Nat} : ∀ {k p : Nat} {b : Nat × Nat}, p ≤ at_ → (b.1 = 0 ∨ (b.1 ≤ most ∧ 1 ≤ b.2 ∧ b.2 ≤ at_ ∧ b.2 ≤ 32768 ∧ mlen t (at_ - b.2) at_ most = b.1)) →
    (chainT t at_ most k p b).1 = 0 ∨ ((chainT t at_ most k p b).1 ≤ most ∧ 1 ≤ (chainT t at_ most k p b).2 ∧ (chainT t at_ most k p b).2 ≤ at_ ∧ (chainT t at_ most k p b).2 ≤ 32768 ∧ mlen t (at_ - (chainT t at_ most k p b).2) at_ most = (chainT t at_ most k p b).1)
  | 0, _, _, _, h => h
  | k + 1, p, b, hp, h => by
    unfold chainT prevP
    by_cases hp3 : p + 3 ≤ t.length
    · rw [if_pos hp3]
      cases hn : newest t p (key3 t p) with
      | none => exact h
      | some q =>
        obtain ⟨h1, h2, h3, h4⟩ := newest_some hn
        show (if 32768 < at_ - q ∨ b.1 = most then b else _).1 = 0 ∨ _
        by_cases hc : 32768 < at_ - q ∨ b.1 = most
        · simp only [if_pos hc]; exact h
        · simp only [if_neg hc]
          refine chain_good (by omega) ?_
          split
          · refine .inr ⟨mlen_le _ _ _ _, ?_, ?_, ?_, ?_⟩
            · show 1 ≤ at_ - q; omega
            · show at_ - q ≤ at_; omega
            · show at_ - q ≤ 32768; omega
            · show mlen t (at_ - (at_ - q)) at_ most = mlen t q at_ most
              rw [show at_ - (at_ - q) = q by omega]
          · exact h
    · rw [if_neg hp3]; exact h
theorem best_good (t : List UInt8) (at_ : Nat) : (bestT t at_).1 = 0 ∨ ((bestT t at_).1 ≤ mostF t.length at_ ∧ 1 ≤ (bestT t at_).2 ∧ (bestT t at_).2 ≤ at_ ∧ (bestT t at_).2 ≤ 32768 ∧ mlen t (at_ - (bestT t at_).2) at_ (mostF t.length at_) = (bestT t at_).1) :=
  chain_good (Nat.le_refl _) (.inl rfl)
end Go.Proofs.Ytnadnokjhinmcaa
