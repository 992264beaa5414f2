/- Which texts are names, as plain functions. No program is named here but for the signs. -/
import Derived.Test.YtbklcelnnmhgkaaDoorNam
import Derived.Test.YtbklcelnnmhgkaaDoorUnh
namespace Go.Proofs.YtbklcelnnmhgkaaDoor
open Go.RowKit

def fig (b : UInt8) : Bool := (decide (48 ≤ b.toNat) && decide (b.toNat ≤ 57)) || (decide (97 ≤ b.toNat) && decide (b.toNat ≤ 102))
/-- The digest that figures tell. -/
def sumF (f : List UInt8) : Option (List UInt8) := match unhexL f with
  | some o => if o.length = 32 then some o else none
  | none => none
/-- The digest of a name. -/
def parseF (s : List UInt8) : Option (List UInt8) := if s.take 7 = preL then sumF (s.drop 7) else none
/-- Is it a name? -/
def isF (s : List UInt8) : Bool := decide (s.length = 71) && (decide (s.take 7 = preL) && (s.drop 7).all fig)

theorem fig_val (b : UInt8) : (val figs b).isSome = fig b := by
  have : ∀ b : Fin 256, (val figs (UInt8.ofNat b.val)).isSome = fig (UInt8.ofNat b.val) := by decide +kernel
  have := this ⟨b.toNat, b.toNat_lt⟩
  simpa using this
theorem unhex_some : ∀ s : List UInt8, (unhexL s).isSome = (decide (s.length % 2 = 0) && s.all fig)
  | [] => rfl
  | [a] => rfl
  | a :: b :: r => by
    have ih := unhex_some r
    rw [unhexL]
    have ha := fig_val a
    have hb := fig_val b
    simp only [List.all_cons, ← ha, ← hb, List.length_cons, show (r.length + 1 + 1) % 2 = r.length % 2 by omega]
    cases h1 : val figs a with
    | none => simp
    | some x =>
      cases h2 : val figs b with
      | none => simp
      | some y => simp [ih]
theorem unhex_len {s o : List UInt8} (h : unhexL s = some o) : s.length = 2 * o.length := by
  rw [← hexL_length, hex_unhex s o h]
theorem sum_some (f : List UInt8) : (sumF f).isSome = (decide (f.length = 64) && f.all fig) := by
  have h := unhex_some f
  unfold sumF
  cases hu : unhexL f with
  | none =>
    rw [hu] at h
    by_cases h6 : f.length = 64
    · have h2 : decide (f.length % 2 = 0) = true := by simp [h6]
      rw [h2] at h
      simp at h
      simp [h6]
      exact h
    · simp [h6]
  | some o =>
    have hl := unhex_len hu
    rw [hu] at h
    have h2 : f.all fig = true := by
      have h3 : (decide (f.length % 2 = 0) && f.all fig) = true := h.symm
      simp only [Bool.and_eq_true] at h3
      exact h3.2
    rw [h2, Bool.and_true]
    by_cases h3 : o.length = 32
    · simp [h3, hl]
    · have : f.length ≠ 64 := by omega
      simp [h3, this]
theorem is_parse (s : List UInt8) : isF s = (parseF s).isSome := by
  unfold isF parseF
  by_cases h : s.take 7 = preL
  · rw [if_pos h, sum_some]
    have h7 : 7 ≤ s.length := by
      have := congrArg List.length h
      rw [List.length_take] at this
      simp [preL] at this
      omega
    simp only [h, List.length_drop, decide_true, Bool.true_and]
    congr 1
    by_cases h1 : s.length = 71
    · simp [h1]
    · have : ¬ (s.length - 7 = 64) := by omega
      simp [h1, this]
  · simp [h]
theorem sum_pre (f : List UInt8) : isF (preL ++ f) = (sumF f).isSome := by
  rw [is_parse]
  unfold parseF
  simp [preL]
theorem sum_len {f L : List UInt8} (h : sumF f = some L) : L.length = 32 ∧ hexL L = f := by
  unfold sumF at h
  cases hu : unhexL f with
  | none => rw [hu] at h; cases h
  | some o =>
    rw [hu] at h
    by_cases h3 : o.length = 32
    · simp only [if_pos h3] at h
      injection h with h
      subst h
      exact ⟨h3, hex_unhex f o hu⟩
    · simp only [if_neg h3] at h
      cases h
theorem parse_name {s L : List UInt8} (h : parseF s = some L) : L.length = 32 ∧ hexL L = s.drop 7 ∧ preL ++ hexL L = s := by
  unfold parseF at h
  by_cases h7 : s.take 7 = preL
  · rw [if_pos h7] at h
    obtain ⟨h1, h2⟩ := sum_len h
    refine ⟨h1, h2, ?_⟩
    rw [h2, ← h7, List.take_append_drop]
  · rw [if_neg h7] at h
    cases h
theorem parse_of (L : List UInt8) (h : L.length = 32) : parseF (preL ++ hexL L) = some L := by
  unfold parseF sumF
  simp [preL, unhex_hex, h]
end Go.Proofs.YtbklcelnnmhgkaaDoor
