
/- Packed bytes: a sign is told by the next fifteen bits. No program is named here: made ahead of the layer that will need it. -/
import Derived.Test.YtjipjclbhdgkoaaDoorInfS
namespace Go.Proofs.YtjipjclbhdgkoaaDoor

theorem hit_15 {ls : List Nat} (hl : Low ls) (M : List UInt8) (s : Nat) : hitP ls (M.take 15) s ↔ hitP ls M s := by
  have h15 := lenAt_low hl s
  unfold hitP
  rw [List.length_take, List.take_take, Nat.min_eq_left h15]
  exact ⟨fun ⟨h1, h2, h3⟩ => ⟨h1, by omega, h3⟩, fun ⟨h1, h2, h3⟩ => ⟨h1, by omega, h3⟩⟩
theorem tkO_15 {ls : List Nat} (hl : Low ls) (M : List UInt8) : tkO ls (M.take 15) = tkO ls M := by
  unfold tkO
  congr 1
  funext s
  simp only [hit_15 hl M s]
theorem q15_take (M : List UInt8) : q15 (M.take 15) = q15 M := by unfold q15; rw [List.length_take]; omega
theorem tail_15 (ls : List Nat) (M : List UInt8) : tailP ls (M.take 15) ↔ tailP ls M := by
  unfold tailP
  have hq : q15 M ≤ 15 := by unfold q15; omega
  rw [q15_take, List.take_take, Nat.min_eq_left hq]
theorem tkS_15 {ls : List Nat} (hl : Low ls) (M : List UInt8) : tkS ls (M.take 15) = tkS ls M := by unfold tkS; rw [tkO_15 hl]
theorem tkN_15 {ls : List Nat} (hl : Low ls) (M : List UInt8) : tkN ls (M.take 15) = tkN ls M := by unfold tkN; rw [tkO_15 hl]
theorem tkE_15 {ls : List Nat} (hl : Low ls) (M : List UInt8) : tkE ls (M.take 15) = tkE ls M := by
  unfold tkE
  rw [tkO_15 hl]
  cases tkO ls M with
  | some s => rfl
  | none =>
    by_cases h : tailP ls M
    · rw [if_pos h, if_pos ((tail_15 ls M).2 h)]
    · rw [if_neg h, if_neg (fun h' => h ((tail_15 ls M).1 h'))]
/-- A sign that is taken is one of the code's, and has a code. -/
theorem tkS_lt {ls : List Nat} {M : List UInt8} (h : tkE ls M = 0) : tkS ls M < ls.length ∧ lenAt ls (tkS ls M) ≠ 0 ∧ tkN ls M = lenAt ls (tkS ls M) := by
  obtain ⟨s, hO, hs⟩ := tk_ok h
  have e : tkS ls M = s := by unfold tkS; rw [hO]; rfl
  rw [e]
  exact ⟨lenAt_lt hs.1, hs.1, by unfold tkN; rw [hO]⟩
/-- The fixed codes are right. -/
theorem fix_right : right fixA false = true ∧ right fixB true = true := by decide +kernel
end Go.Proofs.YtjipjclbhdgkoaaDoor
