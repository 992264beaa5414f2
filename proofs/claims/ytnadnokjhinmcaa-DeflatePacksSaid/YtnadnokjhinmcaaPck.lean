/- What letters and signs a match is told by, as plain functions: by its highest bit, and by the last one that fits. -/
import Derived.Test.YtnadnokjhinmcaaInf
namespace Go.Proofs.Ytnadnokjhinmcaa

/-- How many bits a number below 256 has. -/
def lenT (y : Nat) : Nat := if y < 1 then 0 else if y < 2 then 1 else if y < 4 then 2 else if y < 8 then 3 else if y < 16 then 4 else if y < 32 then 5 else if y < 64 then 6 else if y < 128 then 7 else 8
/-- How many bits a number below 65536 has. -/
def blen (x : Nat) : Nat := if x < 256 then lenT x else 8 + lenT (x / 256)
theorem lenT_le (y : Nat) : lenT y ≤ 8 := by
  unfold lenT
  repeat' split
  all_goals omega
theorem blen_le (x : Nat) : blen x ≤ 16 := by
  unfold blen
  have h1 := lenT_le x
  have h2 := lenT_le (x / 256)
  split <;> omega
def fur (x fine : Nat) : Nat := blen x - 1 - fine
def sgn (first x fine : Nat) : Nat := first + fur x fine * 2 ^ fine + x / 2 ^ fur x fine

/-- The letter of a length. -/
theorem len_tells : ∀ L : Nat, L < 258 → 3 ≤ L →
    (257 ≤ sgn 257 (L - 3) 2 ∧ sgn 257 (L - 3) 2 ≤ 284 ∧ lenBase (sgn 257 (L - 3) 2) ≤ L ∧ L - lenBase (sgn 257 (L - 3) 2) = (L - 3) % 2 ^ fur (L - 3) 2 ∧ lenMore (sgn 257 (L - 3) 2) = fur (L - 3) 2) := by decide +kernel
theorem len_last : ∀ L : Nat, L < 258 → 3 ≤ L → ∀ s : Nat, s < 286 → sgn 257 (L - 3) 2 < s → L < lenBase s := by decide +kernel
theorem len_258 : lenBase 285 = 258 ∧ lenMore 285 = 0 := by decide +kernel
theorem dist_mono : ∀ a : Nat, a < 31 → ∀ b : Nat, b < 31 → a ≤ b → distSum a ≤ distSum b := by decide +kernel

theorem lenT_at : ∀ k : Nat, k < 8 → ∀ y : Nat, y < 256 → 2 ^ k ≤ y → y < 2 ^ (k + 1) → lenT y = k + 1 := by decide +kernel
theorem blen_at {x k : Nat} (hk : k ≤ 15) (h1 : 2 ^ k ≤ x) (h2 : x < 2 ^ (k + 1)) : blen x = k + 1 := by
  unfold blen
  by_cases hx : x < 256
  · rw [if_pos hx]
    have h8 : k < 8 := by
      rcases Nat.lt_or_ge k 8 with h | h
      · exact h
      · have := Nat.pow_le_pow_right (show 0 < 2 by decide) h
        omega
    exact lenT_at k h8 x hx h1 h2
  · rw [if_neg hx]
    have h8 : 8 ≤ k := by
      rcases Nat.lt_or_ge k 8 with h | h
      · have := Nat.pow_le_pow_right (show 0 < 2 by decide) (show k + 1 ≤ 8 from h)
        omega
      · exact h
    obtain ⟨j, rfl⟩ : ∃ j, k = 8 + j := ⟨k - 8, by omega⟩
    have e1 : 2 ^ (8 + j) = 256 * 2 ^ j := by rw [Nat.pow_add]
    have e2 : 2 ^ (8 + j + 1) = 256 * 2 ^ (j + 1) := by rw [Nat.add_assoc, Nat.pow_add]
    have e3 : 2 ^ (j + 1) = 2 * 2 ^ j := by rw [Nat.pow_succ, Nat.mul_comm]
    have e4 : 2 ^ (j + 1) ≤ 2 ^ 8 := Nat.pow_le_pow_right (by decide) (by omega)
    rw [lenT_at j (by omega) (x / 256) (by omega) (by omega) (by omega)]
    omega
/-- The sign of a distance x + 1, where x has k + 2 bits. -/
theorem dist_at {x k : Nat} (hk : k ≤ 13) (h1 : 2 ^ (k + 1) ≤ x) (h2 : x < 2 ^ (k + 2)) :
    fur x 1 = k ∧ (sgn 0 x 1 = 2 * k + 2 ∨ sgn 0 x 1 = 2 * k + 3) ∧ distSum (sgn 0 x 1) ≤ x + 1 ∧ x + 1 - distSum (sgn 0 x 1) = x % 2 ^ k ∧ x + 1 < distSum (sgn 0 x 1 + 1) ∧ distMore (sgn 0 x 1) = k := by
  have hb := blen_at (x := x) (k := k + 1) (by omega) h1 h2
  have hf : fur x 1 = k := by unfold fur; omega
  have hs : sgn 0 x 1 = k * 2 ^ 1 + x / 2 ^ k := by unfold sgn; rw [hf]; omega
  refine ⟨hf, ?_⟩
  rw [hs]
  clear hb hf hs
  have hd : x / 2 ^ k = 2 ∨ x / 2 ^ k = 3 := by
    rcases (show k = 0 ∨ k = 1 ∨ k = 2 ∨ k = 3 ∨ k = 4 ∨ k = 5 ∨ k = 6 ∨ k = 7 ∨ k = 8 ∨ k = 9 ∨ k = 10 ∨ k = 11 ∨ k = 12 ∨ k = 13 by omega) with rfl | rfl | rfl | rfl | rfl | rfl | rfl | rfl | rfl | rfl | rfl | rfl | rfl | rfl <;> simp only [Nat.reducePow, Nat.reduceAdd] at h1 h2 ⊢ <;> omega
  have hm := Nat.div_add_mod x (2 ^ k)
  have hl : x % 2 ^ k < 2 ^ k := Nat.mod_lt _ (Nat.two_pow_pos _)
  have t2 : ∀ k : Nat, k < 14 → distSum (2 * k + 2) = 2 * 2 ^ k + 1 ∧ distSum (2 * k + 3) = 3 * 2 ^ k + 1 ∧ distSum (2 * k + 4) = 4 * 2 ^ k + 1 ∧ distMore (2 * k + 2) = k ∧ distMore (2 * k + 3) = k := by decide +kernel
  obtain ⟨a1, a2, a3, a4, a5⟩ := t2 k (by omega)
  rcases hd with hd | hd
  · rw [hd] at hm ⊢
    rw [show k * 2 ^ 1 + 2 = 2 * k + 2 by omega]
    refine ⟨.inl rfl, ?_⟩
    rw [show 2 * k + 2 + 1 = 2 * k + 3 by omega, a1, a2, a4]
    refine ⟨by omega, by omega, by omega, rfl⟩
  · rw [hd] at hm ⊢
    rw [show k * 2 ^ 1 + 3 = 2 * k + 3 by omega]
    refine ⟨.inr rfl, ?_⟩
    rw [show 2 * k + 3 + 1 = 2 * k + 4 by omega, a2, a3, a5]
    refine ⟨by omega, by omega, by omega, rfl⟩
theorem dist_tells {x : Nat} (hx : x < 32768) :
    sgn 0 x 1 ≤ 29 ∧ distSum (sgn 0 x 1) ≤ x + 1 ∧ x + 1 - distSum (sgn 0 x 1) = x % 2 ^ fur x 1 ∧ distMore (sgn 0 x 1) = fur x 1 ∧ fur x 1 ≤ 13 ∧ ∀ s, sgn 0 x 1 < s → s ≤ 29 → x + 1 < distSum s := by
  by_cases h2 : x < 2
  · have hf : fur x 1 = 0 ∧ sgn 0 x 1 = x := by
      rcases (show x = 0 ∨ x = 1 by omega) with rfl | rfl <;> decide
    rw [hf.1, hf.2]
    have d : ∀ x : Nat, x < 2 → distSum x = x + 1 ∧ distMore x = 0 ∧ distSum (x + 1) = x + 2 := by decide +kernel
    obtain ⟨d1, d2, d3⟩ := d x h2
    refine ⟨by omega, by omega, by omega, d2, by omega, fun s h h' => ?_⟩
    have := dist_mono (x + 1) (by omega) s (by omega) (by omega)
    omega
  · obtain ⟨k, hk, h3, h4⟩ : ∃ k, k ≤ 13 ∧ 2 ^ (k + 1) ≤ x ∧ x < 2 ^ (k + 2) := by
      by_cases a1 : x < 4; · exact ⟨0, by omega, by simp only [Nat.reducePow, Nat.reduceAdd]; omega, by simp only [Nat.reducePow, Nat.reduceAdd]; omega⟩
      by_cases a2 : x < 8; · exact ⟨1, by omega, by simp only [Nat.reducePow, Nat.reduceAdd]; omega, by simp only [Nat.reducePow, Nat.reduceAdd]; omega⟩
      by_cases a3 : x < 16; · exact ⟨2, by omega, by simp only [Nat.reducePow, Nat.reduceAdd]; omega, by simp only [Nat.reducePow, Nat.reduceAdd]; omega⟩
      by_cases a4 : x < 32; · exact ⟨3, by omega, by simp only [Nat.reducePow, Nat.reduceAdd]; omega, by simp only [Nat.reducePow, Nat.reduceAdd]; omega⟩
      by_cases a5 : x < 64; · exact ⟨4, by omega, by simp only [Nat.reducePow, Nat.reduceAdd]; omega, by simp only [Nat.reducePow, Nat.reduceAdd]; omega⟩
      by_cases a6 : x < 128; · exact ⟨5, by omega, by simp only [Nat.reducePow, Nat.reduceAdd]; omega, by simp only [Nat.reducePow, Nat.reduceAdd]; omega⟩
      by_cases a7 : x < 256; · exact ⟨6, by omega, by simp only [Nat.reducePow, Nat.reduceAdd]; omega, by simp only [Nat.reducePow, Nat.reduceAdd]; omega⟩
      by_cases a8 : x < 512; · exact ⟨7, by omega, by simp only [Nat.reducePow, Nat.reduceAdd]; omega, by simp only [Nat.reducePow, Nat.reduceAdd]; omega⟩
      by_cases a9 : x < 1024; · exact ⟨8, by omega, by simp only [Nat.reducePow, Nat.reduceAdd]; omega, by simp only [Nat.reducePow, Nat.reduceAdd]; omega⟩
      by_cases b1 : x < 2048; · exact ⟨9, by omega, by simp only [Nat.reducePow, Nat.reduceAdd]; omega, by simp only [Nat.reducePow, Nat.reduceAdd]; omega⟩
      by_cases b2 : x < 4096; · exact ⟨10, by omega, by simp only [Nat.reducePow, Nat.reduceAdd]; omega, by simp only [Nat.reducePow, Nat.reduceAdd]; omega⟩
      by_cases b3 : x < 8192; · exact ⟨11, by omega, by simp only [Nat.reducePow, Nat.reduceAdd]; omega, by simp only [Nat.reducePow, Nat.reduceAdd]; omega⟩
      by_cases b4 : x < 16384; · exact ⟨12, by omega, by simp only [Nat.reducePow, Nat.reduceAdd]; omega, by simp only [Nat.reducePow, Nat.reduceAdd]; omega⟩
      exact ⟨13, by omega, by simp only [Nat.reducePow, Nat.reduceAdd]; omega, by simp only [Nat.reducePow, Nat.reduceAdd]; omega⟩
    obtain ⟨c1, c2, c3, c4, c5, c6⟩ := dist_at hk h3 h4
    rw [c1]
    refine ⟨by omega, c3, c4, c6, hk, fun s h h' => ?_⟩
    have := dist_mono (sgn 0 x 1 + 1) (by omega) s (by omega) (by omega)
    omega
end Go.Proofs.Ytnadnokjhinmcaa
