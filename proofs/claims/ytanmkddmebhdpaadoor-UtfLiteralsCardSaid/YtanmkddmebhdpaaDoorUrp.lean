/- A literal read byte by byte, as the reference reads it. No program in it. -/
import Derived.Test.YtanmkddmebhdpaaDoorUrg
import Derived.Test.YtanmkddmebhdpaaDoorUtv
namespace Go.Proofs.YtanmkddmebhdpaaDoor
set_option maxRecDepth 100000
open Go.Lib

theorem encB_low (b : UInt8) (h : b.toNat < 128) : encB b.toNat = [b] := by unfold encB; rw [if_pos h, nb_of]
theorem decB_low (b : UInt8) (r : List UInt8) (h : b.toNat < 128) : decodeL (b :: r) = (b.toNat, 1) := by
  have h2 := dec_enc b.toNat (.inl (by omega)) r
  rw [encB_low b h] at h2
  rw [show b :: r = [b] ++ r from rfl, h2]
  have : (encB b.toNat).length = 1 := by rw [encB_low b h]; rfl
  rw [encB_length] at this
  rw [this]
theorem lit_nil (full : List UInt8 → Bool) (n : Nat) (t : List UInt8) (u : Nat) : litF full (n + 1) [] t u = .error 10 := by rw [litF_succ, if_pos rfl]
theorem lit_quote (full : List UInt8 → Bool) (n : Nat) (r t : List UInt8) (u : Nat) : litF full (n + 1) (34 :: r) t u = .ok (t, u + 1) := by
  rw [litF_succ, if_neg (by simp), decB_low 34 r (by decide), if_pos (show ((34 : UInt8).toNat, 1).1 = 34 from rfl)]
theorem lit_low (full : List UInt8 → Bool) (n : Nat) (b : UInt8) (r t : List UInt8) (u : Nat) (h : b.toNat < 32) : litF full (n + 1) (b :: r) t u = .error 2 := by
  rw [litF_succ, if_neg (by simp), decB_low b r (by omega), if_neg (by show ¬ b.toNat = 34; omega), if_neg (by show ¬ b.toNat = 92; omega), if_pos h]
theorem lit_back (full : List UInt8 → Bool) (n : Nat) (r t : List UInt8) (u : Nat) : litF full (n + 1) (92 :: r) t u = match escF r with
    | .error k => .error k
    | .ok (c, m) => litF full n ((92 :: r).drop m) (t ++ encB c) (u + m) := by
  rw [litF_succ, if_neg (by simp), decB_low 92 r (by decide), if_neg (show ¬ ((92 : UInt8).toNat, 1).1 = 34 by decide), if_pos (show ((92 : UInt8).toNat, 1).1 = 92 from rfl), List.drop_succ_cons, List.drop_zero]
  cases escF r with
  | error k => rfl
  | ok x => rfl
theorem lit_sign (b : UInt8) (r : List UInt8) (h1 : b.toNat ≠ 34) (h2 : b.toNat ≠ 92) (h3 : 32 ≤ b.toNat) :
    (∃ (z : Int) (k : Nat), signP (b :: r) = (0, z) ∧ ((z = -1 ∧ k = 10) ∨ (z = 0 ∧ k = 9)) ∧ ∀ n t u, litF fullP (n + 1) (b :: r) t u = .error k) ∨
    (∃ c r', okc c ∧ b :: r = encB c ++ r' ∧ signP (b :: r) = (c, (widC c : Int)) ∧ ∀ n t u, litF fullP (n + 1) (b :: r) t u = litF fullP n r' (t ++ encB c) (u + widC c)) := by
  by_cases h : decodeL (b :: r) = (65533, 1)
  · have hs := sign_full (b :: r) (by simp) h
    have hl : ∀ n t u, litF fullP (n + 1) (b :: r) t u = .error (if fullP (b :: r) then 9 else 10) := by
      intro n t u
      rw [litF_succ, if_neg (by simp), h, if_neg (by decide), if_neg (by decide), if_neg (by decide), if_pos rfl]
    refine .inl ?_
    cases hf : fullP (b :: r)
    · rw [hf] at hs
      exact ⟨-1, 10, hs, .inl ⟨rfl, rfl⟩, fun n t u => by rw [hl, hf]; rfl⟩
    · rw [hf] at hs
      exact ⟨0, 9, hs, .inr ⟨rfl, rfl⟩, fun n t u => by rw [hl, hf]; rfl⟩
  · obtain ⟨c, r', hc, hd, he⟩ := enc_dec (b :: r) (by simp) h
    have hq : c ≠ 34 ∧ c ≠ 92 ∧ 32 ≤ c := by
      by_cases hb : b.toNat < 128
      · rw [decB_low b r hb] at hd
        injection hd with hd1 hd2
        subst hd1
        exact ⟨h1, h2, h3⟩
      · by_cases hc2 : c < 128
        · exfalso
          have hec : encB c = [nb c] := by unfold encB; rw [if_pos hc2]
          rw [hec] at he
          injection he with he1 he2
          rw [he1, nb_toNat (by omega)] at hb
          exact hb hc2
        · omega
    refine .inr ⟨c, r', hc, he, by rw [he]; exact sign_ok c hc r', ?_⟩
    intro n t u
    rw [litF_succ, if_neg (by simp), if_neg (by rw [hd]; exact hq.1), if_neg (by rw [hd]; exact hq.2.1), if_neg (by rw [hd]; show ¬ c < 32; omega), if_neg h, hd]
    dsimp only
    rw [he, List.drop_left' (encB_length c)]
def namesL : List UInt8 := [34, 92, 47, 98, 102, 110, 114, 116]
def bytesL : List UInt8 := [34, 92, 47, 8, 12, 10, 13, 9]
/-- Where a letter stands among the first ones. -/
def shortP (a : UInt8) : Nat → Int
  | 0 => -1
  | i + 1 => if namesL[i]? = some a then (i : Int) else shortP a i
theorem shortP_succ (a : UInt8) (i : Nat) : shortP a (i + 1) = if namesL[i]? = some a then (i : Int) else shortP a i := rfl
theorem short_spec (a : UInt8) : (shortP a 8 = -1 ∧ a ≠ 47 ∧ ¬ lettersL.idxOf a.toNat < 7) ∨
    ∃ (j : Nat) (v : UInt8), shortP a 8 = (j : Int) ∧ j < 8 ∧ bytesL[j]? = some v ∧ v.toNat < 128 ∧ ∀ r, escF (a :: r) = .ok (v.toNat, 2) := by
  by_cases q0 : a = 34
  · subst q0
    exact .inr ⟨0, 34, by decide, by decide, rfl, by decide, fun r => by rw [escF_cons, if_neg (by decide), if_neg (by decide), if_pos (by decide)]; rfl⟩
  by_cases q1 : a = 92
  · subst q1
    exact .inr ⟨1, 92, by decide, by decide, rfl, by decide, fun r => by rw [escF_cons, if_neg (by decide), if_neg (by decide), if_pos (by decide)]; rfl⟩
  by_cases q2 : a = 47
  · subst q2
    exact .inr ⟨2, 47, by decide, by decide, rfl, by decide, fun r => by rw [escF_cons, if_neg (by decide), if_pos rfl]; rfl⟩
  by_cases q3 : a = 98
  · subst q3
    exact .inr ⟨3, 8, by decide, by decide, rfl, by decide, fun r => by rw [escF_cons, if_neg (by decide), if_neg (by decide), if_pos (by decide)]; rfl⟩
  by_cases q4 : a = 102
  · subst q4
    exact .inr ⟨4, 12, by decide, by decide, rfl, by decide, fun r => by rw [escF_cons, if_neg (by decide), if_neg (by decide), if_pos (by decide)]; rfl⟩
  by_cases q5 : a = 110
  · subst q5
    exact .inr ⟨5, 10, by decide, by decide, rfl, by decide, fun r => by rw [escF_cons, if_neg (by decide), if_neg (by decide), if_pos (by decide)]; rfl⟩
  by_cases q6 : a = 114
  · subst q6
    exact .inr ⟨6, 13, by decide, by decide, rfl, by decide, fun r => by rw [escF_cons, if_neg (by decide), if_neg (by decide), if_pos (by decide)]; rfl⟩
  by_cases q7 : a = 116
  · subst q7
    exact .inr ⟨7, 9, by decide, by decide, rfl, by decide, fun r => by rw [escF_cons, if_neg (by decide), if_neg (by decide), if_pos (by decide)]; rfl⟩
  refine .inl ⟨?_, q2, ?_⟩
  · rw [shortP_succ, if_neg (show ¬ namesL[7]? = some a from fun h => q7 (Option.some.inj (show some (116 : UInt8) = some a from h)).symm), shortP_succ, if_neg (show ¬ namesL[6]? = some a from fun h => q6 (Option.some.inj (show some (114 : UInt8) = some a from h)).symm),
      shortP_succ, if_neg (show ¬ namesL[5]? = some a from fun h => q5 (Option.some.inj (show some (110 : UInt8) = some a from h)).symm), shortP_succ, if_neg (show ¬ namesL[4]? = some a from fun h => q4 (Option.some.inj (show some (102 : UInt8) = some a from h)).symm),
      shortP_succ, if_neg (show ¬ namesL[3]? = some a from fun h => q3 (Option.some.inj (show some (98 : UInt8) = some a from h)).symm), shortP_succ, if_neg (show ¬ namesL[2]? = some a from fun h => q2 (Option.some.inj (show some (47 : UInt8) = some a from h)).symm),
      shortP_succ, if_neg (show ¬ namesL[1]? = some a from fun h => q1 (Option.some.inj (show some (92 : UInt8) = some a from h)).symm), shortP_succ, if_neg (show ¬ namesL[0]? = some a from fun h => q0 (Option.some.inj (show some (34 : UInt8) = some a from h)).symm)]
    rfl
  · intro hlt
    have hm : a.toNat ∈ lettersL := List.idxOf_lt_length_iff.1 hlt
    have key : ∀ x : UInt8, a.toNat = x.toNat → a = x := fun x h => UInt8.toNat_inj.1 h
    simp only [lettersL, List.mem_cons, List.not_mem_nil, or_false] at hm
    rcases hm with h | h | h | h | h | h | h
    · exact q0 (key 34 h)
    · exact q1 (key 92 h)
    · exact q3 (key 98 h)
    · exact q4 (key 102 h)
    · exact q5 (key 110 h)
    · exact q6 (key 114 h)
    · exact q7 (key 116 h)
theorem numF_err (bad : Nat) : ∀ (k : Nat) (l : List UInt8) (x e : Nat), numF bad k l x = .error e → e = bad ∨ e = 10
  | 0, _, _, _, h => by cases h
  | _ + 1, [], _, e, h => by
    have h : Except.error 10 = (Except.error e : Except Nat Nat) := h
    injection h with h
    exact .inr h.symm
  | k + 1, u :: l, x, e, h => by
    unfold numF at h
    split at h
    · injection h with h
      exact .inl h.symm
    · exact numF_err bad k l _ e h
end Go.Proofs.YtanmkddmebhdpaaDoor
