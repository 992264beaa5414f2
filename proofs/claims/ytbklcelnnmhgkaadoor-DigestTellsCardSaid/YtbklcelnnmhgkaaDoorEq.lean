/- The program's digest and the reference's are the same list. No program is named here. -/
import Derived.Test.YtbklcelnnmhgkaaDoorPure
namespace Go.Proofs.YtbklcelnnmhgkaaDoor

/-- Bytes within a block only stand in it. -/
theorem puts_part (s : S8) : ∀ (l pre blk : List UInt8) (m : Nat), pre.length + blk.length = 64 → pre.length + l.length ≤ 63 → 
    puts ⟨s, pre ++ blk, 64 * m + pre.length⟩ l = ⟨s, pre ++ l ++ blk.drop l.length, 64 * m + (pre.length + l.length)⟩
  | [], pre, blk, m, _, _ => by simp [puts]
  | x :: l, pre, [], m, h1, h2 => by simp at h1 h2; omega
  | x :: l, pre, y :: blk, m, h1, h2 => by
    have hmod : (64 * m + pre.length) % 64 = pre.length := by simp at h2; omega
    have hput : put ⟨s, pre ++ y :: blk, 64 * m + pre.length⟩ x = ⟨s, (pre ++ [x]) ++ blk, 64 * m + (pre ++ [x]).length⟩ := by
      unfold put
      rw [if_neg (by simp at h2 ⊢; omega)]
      simp only [hmod]
      congr 1
      · rw [List.set_append_right _ _ (Nat.le_refl _), Nat.sub_self]; simp
      · simp; omega
    show puts (put ⟨s, pre ++ y :: blk, 64 * m + pre.length⟩ x) l = _
    rw [hput, puts_part s l (pre ++ [x]) blk m (by simp at h1 ⊢; omega) (by simp at h2 ⊢; omega)]
    simp
    omega

/-- A whole block is mixed in. -/
theorem puts_block (s : S8) (blk c : List UInt8) (m : Nat) (hb : blk.length = 64) (hc : c.length = 64) : puts ⟨s, blk, 64 * m⟩ c = ⟨mixP s c, c, 64 * (m + 1)⟩ := by
  obtain ⟨z, hz⟩ : ∃ z, c.drop 63 = [z] := by
    have h1 : (c.drop 63).length = 1 := by rw [List.length_drop, hc]
    match c.drop 63, h1 with
    | [z], _ => exact ⟨z, rfl⟩
  have hcz : c = c.take 63 ++ [z] := by rw [← hz, List.take_append_drop]
  have hl : (c.take 63).length = 63 := by rw [List.length_take, hc]; rfl
  have h1 := puts_part s (c.take 63) [] blk m (by simpa using hb) (by simp [hl])
  simp only [List.nil_append, List.length_nil, Nat.add_zero, Nat.zero_add, hl] at h1
  obtain ⟨q, hq⟩ : ∃ q, blk.drop 63 = [q] := by
    have h1 : (blk.drop 63).length = 1 := by rw [List.length_drop, hb]
    match blk.drop 63, h1 with
    | [z], _ => exact ⟨z, rfl⟩
  rw [hq] at h1
  conv => lhs; rw [hcz]
  rw [puts_append, h1]
  show put _ z = _
  unfold put
  simp only []
  rw [if_pos (by omega), show (64 * m + 63) % 64 = 63 by omega]
  have h2 : (c.take 63 ++ [q]).set 63 z = c := by
    rw [List.set_append_right _ _ (by rw [hl]; omega), hl]
    simp
    exact hcz.symm
  rw [h2]
  congr 1

def blkOf0 (T : List UInt8) (b : Nat) : List UInt8 := (T.drop (64 * b)).take 64
theorem puts_blocks (T : List UInt8) (nb : Nat) (hT : T.length = 64 * nb) : ∀ b, b ≤ nb → ∃ blk, blk.length = 64 ∧ puts H0 (T.take (64 * b)) = ⟨upto (fun b s => mixP s (blkOf0 T b)) b S0, blk, 64 * b⟩
  | 0, _ => ⟨List.replicate 64 0, rfl, rfl⟩
  | b + 1, h => by
    obtain ⟨blk, hl, he⟩ := puts_blocks T nb hT b (by omega)
    have hlen : (blkOf0 T b).length = 64 := by unfold blkOf0; rw [List.length_take, List.length_drop]; omega
    refine ⟨blkOf0 T b, hlen, ?_⟩
    have h1 : T.take (64 * (b + 1)) = T.take (64 * b) ++ blkOf0 T b := by
      unfold blkOf0
      rw [show 64 * (b + 1) = 64 * b + 64 by omega, List.take_add]
    rw [h1, puts_append, he, puts_block _ blk _ b hl hlen]
    rfl
end Go.Proofs.YtbklcelnnmhgkaaDoor
