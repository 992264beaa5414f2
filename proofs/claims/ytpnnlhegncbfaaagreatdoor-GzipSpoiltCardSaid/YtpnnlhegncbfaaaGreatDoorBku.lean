
/- Tokens give the text back. -/
import Derived.Test.YtpnnlhegncbfaaaGreatDoorGroupT
import Derived.Test.YtpnnlhegncbfaaaGreatDoorTkb
import Derived.Test.YtpnnlhegncbfaaaGreatDoorGroupQ
namespace Go.Proofs.YtpnnlhegncbfaaaGreatDoor
set_option maxRecDepth 20000

theorem mt_same {t : List UInt8} {p q : Nat} : ∀ k n j, n ≤ j → j < mt t p q k n → t.getD (p + j) 0 = t.getD (q + j) 0
  | 0, n, j, h1, h2 => by unfold mt at h2; omega
  | k + 1, n, j, h1, h2 => by
    unfold mt at h2
    split at h2
    · rename_i he
      by_cases hj : j = n
      · subst hj; exact he
      · exact mt_same k (n + 1) j (by omega) h2
    · omega
/-- What a look back finds is there. -/
def sameB (t : List UInt8) (at_ : Nat) (b : Nat × Nat) : Prop := ∀ j, j < b.1 → t.getD (at_ - b.2 + j) 0 = t.getD (at_ + j) 0
theorem look_same (t : List UInt8) (at_ most : Nat) : ∀ (p k : Nat) (b : Nat × Nat), p ≤ at_ → sameB t at_ b → sameB t at_ (lookR t at_ most p k b)
  | 0, _, _, _, h => h
  | p + 1, k, b, hp, h => by
    unfold lookR
    split
    · split
      · exact look_same t at_ most p k b (by omega) h
      · refine look_same t at_ most p (k + 1) _ (by omega) ?_
        split
        · intro j hj
          have hj : j < mlen t p at_ most := hj
          have := mt_same most 0 j (Nat.zero_le _) hj
          show t.getD (at_ - (at_ - p) + j) 0 = _
          rw [show at_ - (at_ - p) = p by omega]
          exact this
        · exact h
    · exact h
theorem best_same (t : List UInt8) (at_ : Nat) : sameB t at_ (bestT t at_) := by
  rw [best_look]
  exact look_same t at_ _ _ _ _ (Nat.le_refl _) (fun j hj => by cases hj)
theorem take_one {t : List UInt8} {q : Nat} (h : q < t.length) : t.take q ++ [t.getD q 0] = t.take (q + 1) := by
  rw [List.take_add_one, List.getElem?_eq_getElem h, List.getD_eq_getElem?_getD, List.getElem?_eq_getElem h]
  rfl
theorem copy_take {t : List UInt8} {D : Nat} (hD : 1 ≤ D) : ∀ L q, D ≤ q → q + L ≤ t.length → (∀ j, j < L → t.getD (q - D + j) 0 = t.getD (q + j) 0) → copyN D L (t.take q) = t.take (q + L)
  | 0, q, _, _, _ => rfl
  | L + 1, q, h1, h2, h3 => by
    have hq : (t.take q).length = q := by rw [List.length_take]; omega
    unfold copyN
    have e : (t.take q).getD ((t.take q).length - D) 0 = t.getD q 0 := by
      rw [hq, List.getD_eq_getElem?_getD, List.getElem?_take, if_pos (by omega), ← List.getD_eq_getElem?_getD]
      have := h3 0 (by omega)
      simpa using this
    rw [e, take_one (by omega), copy_take hD L (q + 1) (by omega) (by omega) (fun j hj => by
      have := h3 (j + 1) (by omega)
      rw [show q + 1 - D + j = q - D + (j + 1) by omega, show q + 1 + j = q + (j + 1) by omega]
      exact this), show q + 1 + L = q + (L + 1) by omega]
theorem best_three (t : List UInt8) (q : Nat) : (bestT t q).1 = 0 ∨ 3 ≤ (bestT t q).1 := by
  rw [best_look]
  exact look_three t q _ _ _ _ (.inl rfl)
theorem step_take {t : List UInt8} {q : Nat} (hq : q < t.length) (hl : t.length ≤ 1000000) : refuse (tokAt t q) (t.take q).length = 0 ∧ putT (tokAt t q) (t.take q) = t.take (q + stepT t q) ∧ q + stepT t q ≤ t.length := by
  have h0 : (t.take q).length = q := by rw [List.length_take]; omega
  rw [h0]
  have hs := best_same t q
  have h3 := best_three t q
  have hg := best_good t q
  unfold tokAt stepT
  generalize bestT t q = b at hs h3 hg
  obtain ⟨L, D⟩ := b
  simp only at hs h3 hg
  unfold tokF
  by_cases hL : L = 0
  · subst hL
    rw [if_pos rfl]
    refine ⟨?_, ?_, by simp; omega⟩
    · unfold refuse formed szI
      simp
      omega
    · unfold putT
      simp only [if_pos]
      rw [take_one hq]
      rfl
  · rw [if_neg hL]
    have hg2 : L ≤ mostF t.length q ∧ 1 ≤ D ∧ D ≤ q ∧ D ≤ 32768 := by
      rcases hg with h | h
      · exact absurd h hL
      · exact ⟨h.1, h.2.1, h.2.2.1, h.2.2.2.1⟩
    have hm : mostF t.length q ≤ 258 ∧ mostF t.length q ≤ t.length - q := by unfold mostF; omega
    have hst : max 1 L = L := by omega
    refine ⟨?_, ?_, by simp only [hst]; omega⟩
    · have hf : formed ⟨0, (L : Int), (D : Int)⟩ = true := by
        unfold formed
        simp only
        rw [if_neg (by omega)]
        exact decide_eq_true ⟨by omega, by omega, by omega, trivial⟩
      unfold refuse
      rw [hf]
      simp only
      rw [if_neg (by decide), if_neg (by omega), if_neg (by unfold szI; split <;> omega)]
    · unfold putT
      simp only
      rw [if_neg (by omega), hst]
      exact copy_take (D := D) hg2.2.1 L q hg2.2.2.1 (by omega) hs
theorem untok_from {t : List UInt8} (hl : t.length ≤ 1000000) : ∀ F q, q ≤ t.length → t.length - q ≤ F → untokF (toksF t F q) (t.take q) = .ok t
  | 0, q, h1, h2 => by
    have : q = t.length := by omega
    subst this
    unfold toksF untokF
    rw [List.take_length]
  | F + 1, q, h1, h2 => by
    unfold toksF
    by_cases hq : q < t.length
    · obtain ⟨a, b, c⟩ := step_take hq hl
      rw [if_pos hq, untokF, if_pos a, b]
      have hs : 1 ≤ stepT t q := by unfold stepT; omega
      exact untok_from hl F _ c (by omega)
    · have : q = t.length := by omega
      subst this
      rw [if_neg hq, untokF, List.take_length]
/-- Untokens takes back what Tokens gives. -/
theorem untok_toks {t : List UInt8} (hl : t.length ≤ 1000000) : untokF (toksT t) [] = .ok t := untok_from hl t.length 0 (Nat.zero_le _) (Nat.le_refl _)
end Go.Proofs.YtpnnlhegncbfaaaGreatDoor
