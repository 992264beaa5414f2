/- The document's reading of a sign is the language's. No program in it. -/
import Derived.Test.YtanmkddmebhdpaaDoorUtr
namespace Go.Proofs.YtanmkddmebhdpaaDoor
set_option maxRecDepth 100000
open Go.Lib

theorem pw0 : pw 0 = 1 := rfl
theorem pw1 : pw 1 = 64 := rfl
theorem pw2 : pw 2 = 4096 := rfl
theorem pw3 : pw 3 = 262144 := rfl
/-- What is no sign for the document is none for the language, and what is one is the same one. -/
def Same (B : Nat × Int) (D : Nat × Nat) : Prop := (B.2 ≤ 0 ∧ D = (65533, 1)) ∨ (B.2 = (D.2 : Int) ∧ B.1 = D.1 ∧ 1 ≤ D.2 ∧ D ≠ (65533, 1))
set_option maxHeartbeats 4000000 in
theorem same_C2 (n b0 b1 b2 b3 : Nat) (_ : 1 ≤ n) (h1 : b1 < 256) (_ : b2 < 256) (_ : b3 < 256) (hb : 194 ≤ b0 ∧ b0 < 224) : Same (byN b0 b1 b2 b3 n) (slowN n b0 b1 b2 b3 2 128 191) := by
  have k0 : ¬ b0 < 128 := by omega
  have k1 : 192 ≤ b0 ∧ b0 < 224 := by omega
  unfold byN slowN
  rw [if_neg k0, if_pos k1]
  repeat' split
  all_goals try simp only [exS, pw0, pw1] at *
  all_goals first
    | (exfalso; omega)
    | exact .inl ⟨by decide, rfl⟩
    | exact .inr ⟨rfl, by show (_ : Nat) = _; omega, Nat.le_of_ble_eq_true rfl, by intro e; injection e; omega⟩
set_option maxHeartbeats 4000000 in
theorem same_E0 (n b0 b1 b2 b3 : Nat) (hn : 1 ≤ n) (h1 : b1 < 256) (h2 : b2 < 256) (_ : b3 < 256) (hb : b0 = 224) : Same (byN b0 b1 b2 b3 n) (slowN n b0 b1 b2 b3 3 160 191) := by
  have k0 : ¬ b0 < 128 := by omega
  have k1 : ¬ (192 ≤ b0 ∧ b0 < 224) := by omega
  have k2 : 224 ≤ b0 ∧ b0 < 240 := by omega
  unfold byN slowN
  rw [if_neg k0, if_neg k1, if_pos k2]
  repeat' split
  all_goals try simp only [exS, pw0, pw1, pw2] at *
  all_goals first
    | (exfalso; omega)
    | exact .inl ⟨by decide, rfl⟩
    | exact .inr ⟨rfl, by show (_ : Nat) = _; omega, Nat.le_of_ble_eq_true rfl, by intro e; injection e; omega⟩
set_option maxHeartbeats 4000000 in
theorem same_E1 (n b0 b1 b2 b3 : Nat) (hn : 1 ≤ n) (h1 : b1 < 256) (h2 : b2 < 256) (_ : b3 < 256) (hb : (225 ≤ b0 ∧ b0 < 237) ∨ (238 ≤ b0 ∧ b0 < 240)) : Same (byN b0 b1 b2 b3 n) (slowN n b0 b1 b2 b3 3 128 191) := by
  have k0 : ¬ b0 < 128 := by omega
  have k1 : ¬ (192 ≤ b0 ∧ b0 < 224) := by omega
  have k2 : 224 ≤ b0 ∧ b0 < 240 := by omega
  unfold byN slowN
  rw [if_neg k0, if_neg k1, if_pos k2]
  repeat' split
  all_goals try simp only [exS, pw0, pw1, pw2] at *
  all_goals first
    | (exfalso; omega)
    | exact .inl ⟨by decide, rfl⟩
    | exact .inr ⟨rfl, by show (_ : Nat) = _; omega, Nat.le_of_ble_eq_true rfl, by intro e; injection e; omega⟩
set_option maxHeartbeats 4000000 in
theorem same_ED (n b0 b1 b2 b3 : Nat) (hn : 1 ≤ n) (h1 : b1 < 256) (h2 : b2 < 256) (_ : b3 < 256) (hb : b0 = 237) : Same (byN b0 b1 b2 b3 n) (slowN n b0 b1 b2 b3 3 128 159) := by
  have k0 : ¬ b0 < 128 := by omega
  have k1 : ¬ (192 ≤ b0 ∧ b0 < 224) := by omega
  have k2 : 224 ≤ b0 ∧ b0 < 240 := by omega
  unfold byN slowN
  rw [if_neg k0, if_neg k1, if_pos k2]
  repeat' split
  all_goals try simp only [exS, pw0, pw1, pw2] at *
  all_goals first
    | (exfalso; omega)
    | exact .inl ⟨by decide, rfl⟩
    | exact .inr ⟨rfl, by show (_ : Nat) = _; omega, Nat.le_of_ble_eq_true rfl, by intro e; injection e; omega⟩
set_option maxHeartbeats 4000000 in
theorem same_F0 (n b0 b1 b2 b3 : Nat) (hn : 1 ≤ n) (h1 : b1 < 256) (h2 : b2 < 256) (h3 : b3 < 256) (hb : b0 = 240) : Same (byN b0 b1 b2 b3 n) (slowN n b0 b1 b2 b3 4 144 191) := by
  have k0 : ¬ b0 < 128 := by omega
  have k1 : ¬ (192 ≤ b0 ∧ b0 < 224) := by omega
  have k2 : ¬ (224 ≤ b0 ∧ b0 < 240) := by omega
  have k3 : 240 ≤ b0 ∧ b0 < 248 := by omega
  unfold byN slowN
  rw [if_neg k0, if_neg k1, if_neg k2, if_pos k3]
  repeat' split
  all_goals try simp only [exS, pw0, pw1, pw2, pw3] at *
  all_goals first
    | (exfalso; omega)
    | exact .inl ⟨by decide, rfl⟩
    | exact .inr ⟨rfl, by show (_ : Nat) = _; omega, Nat.le_of_ble_eq_true rfl, by intro e; injection e; omega⟩
set_option maxHeartbeats 4000000 in
theorem same_F1 (n b0 b1 b2 b3 : Nat) (hn : 1 ≤ n) (h1 : b1 < 256) (h2 : b2 < 256) (h3 : b3 < 256) (hb : 241 ≤ b0 ∧ b0 < 244) : Same (byN b0 b1 b2 b3 n) (slowN n b0 b1 b2 b3 4 128 191) := by
  have k0 : ¬ b0 < 128 := by omega
  have k1 : ¬ (192 ≤ b0 ∧ b0 < 224) := by omega
  have k2 : ¬ (224 ≤ b0 ∧ b0 < 240) := by omega
  have k3 : 240 ≤ b0 ∧ b0 < 248 := by omega
  unfold byN slowN
  rw [if_neg k0, if_neg k1, if_neg k2, if_pos k3]
  repeat' split
  all_goals try simp only [exS, pw0, pw1, pw2, pw3] at *
  all_goals first
    | (exfalso; omega)
    | exact .inl ⟨by decide, rfl⟩
    | exact .inr ⟨rfl, by show (_ : Nat) = _; omega, Nat.le_of_ble_eq_true rfl, by intro e; injection e; omega⟩
set_option maxHeartbeats 4000000 in
theorem same_F4 (n b0 b1 b2 b3 : Nat) (hn : 1 ≤ n) (h1 : b1 < 256) (h2 : b2 < 256) (h3 : b3 < 256) (hb : b0 = 244) : Same (byN b0 b1 b2 b3 n) (slowN n b0 b1 b2 b3 4 128 143) := by
  have k0 : ¬ b0 < 128 := by omega
  have k1 : ¬ (192 ≤ b0 ∧ b0 < 224) := by omega
  have k2 : ¬ (224 ≤ b0 ∧ b0 < 240) := by omega
  have k3 : 240 ≤ b0 ∧ b0 < 248 := by omega
  unfold byN slowN
  rw [if_neg k0, if_neg k1, if_neg k2, if_pos k3]
  repeat' split
  all_goals try simp only [exS, pw0, pw1, pw2, pw3] at *
  all_goals first
    | (exfalso; omega)
    | exact .inl ⟨by decide, rfl⟩
    | exact .inr ⟨rfl, by show (_ : Nat) = _; omega, Nat.le_of_ble_eq_true rfl, by intro e; injection e; omega⟩
set_option maxHeartbeats 4000000 in
theorem same_N (n b0 b1 b2 b3 : Nat) (hn : 1 ≤ n) (h0 : b0 < 256) (h1 : b1 < 256) (h2 : b2 < 256) (h3 : b3 < 256) : Same (byN b0 b1 b2 b3 n) (decodeN n b0 b1 b2 b3) := by
  by_cases c0 : b0 < 128
  · have hd : decodeN n b0 b1 b2 b3 = (b0, 1) := by simp [decodeN, c0]
    have hb : byN b0 b1 b2 b3 n = (b0, 1) := by simp [byN, c0]
    rw [hd, hb]
    exact .inr ⟨rfl, rfl, Nat.le_refl _, by intro e; injection e; omega⟩
  · by_cases c1 : b0 < 194 ∨ 244 < b0
    · have hf : firstT b0 = 241 := by
        unfold firstT
        repeat' split
        all_goals omega
      refine .inl ⟨?_, bad_eq n b0 b1 b2 b3 h0 hf⟩
      have hb : byN b0 b1 b2 b3 n = (0, 0) := by
        unfold byN
        by_cases q1 : b0 < 192
        · rw [if_neg c0, if_neg (by omega), if_neg (by omega), if_neg (by omega)]
        · by_cases q2 : b0 < 194
          · rw [if_neg c0, if_pos (by omega), if_pos (.inl (by rw [pw1]; omega))]
          · by_cases q3 : b0 < 248
            · rw [if_neg c0, if_neg (by omega), if_neg (by omega), if_pos (by omega), if_pos (.inr (.inl (by rw [pw3]; omega)))]
            · rw [if_neg c0, if_neg (by omega), if_neg (by omega), if_neg (by omega)]
      rw [hb]
      decide
    · have hx : firstT b0 < 240 := by
        unfold firstT
        repeat' split
        all_goals omega
      rcases firstT_low hx with h | h | h | h | h | h | h
      · rw [← slow_C2 n b0 b1 b2 b3 hn h1 h2 h3 h]; exact same_C2 n b0 b1 b2 b3 hn h1 h2 h3 h
      · rw [← slow_E0 n b0 b1 b2 b3 hn h1 h2 h3 h]; exact same_E0 n b0 b1 b2 b3 hn h1 h2 h3 h
      · rw [← slow_E1 n b0 b1 b2 b3 hn h1 h2 h3 h]; exact same_E1 n b0 b1 b2 b3 hn h1 h2 h3 h
      · rw [← slow_ED n b0 b1 b2 b3 hn h1 h2 h3 h]; exact same_ED n b0 b1 b2 b3 hn h1 h2 h3 h
      · rw [← slow_F0 n b0 b1 b2 b3 hn h1 h2 h3 h]; exact same_F0 n b0 b1 b2 b3 hn h1 h2 h3 h
      · rw [← slow_F1 n b0 b1 b2 b3 hn h1 h2 h3 h]; exact same_F1 n b0 b1 b2 b3 hn h1 h2 h3 h
      · rw [← slow_F4 n b0 b1 b2 b3 hn h1 h2 h3 h]; exact same_F4 n b0 b1 b2 b3 hn h1 h2 h3 h
theorem sign_same (l : List UInt8) (hl : l ≠ []) : Same (signP l) (decodeL l) := by
  rw [signP_byN l hl, decodeL_N]
  exact same_N _ _ _ _ _ (List.length_pos_iff.2 hl) (UInt8.toNat_lt _) (UInt8.toNat_lt _) (UInt8.toNat_lt _) (UInt8.toNat_lt _)
/-- A right sign is read as that sign. -/
theorem sign_ok (c : Nat) (h : okc c) (r : List UInt8) : signP (encB c ++ r) = (c, (widC c : Int)) := by
  have hne : encB c ++ r ≠ [] := by
    intro e
    have := congrArg List.length e
    rw [List.length_append, encB_length] at this
    have := (widC_pos c).1
    simp at *
    omega
  have hd := dec_enc c h r
  rcases sign_same _ hne with ⟨_, h2⟩ | ⟨h1, h2, _, _⟩
  · rw [hd] at h2
    injection h2 with h2 h3
    subst h2
    exact absurd h3 (by decide)
  · rw [hd] at h1 h2
    exact Prod.ext h2 h1
/-- At a wrong byte there is none. -/
theorem sign_halt (r : List UInt8) (h : halt r) : (signP r).2 ≤ 0 := by
  rcases h with h | h
  · subst h
    decide
  · by_cases h0 : r = []
    · subst h0
      decide
    · rcases sign_same _ h0 with ⟨h1, _⟩ | ⟨_, _, _, h2⟩
      · exact h1
      · exact absurd h h2
end Go.Proofs.YtanmkddmebhdpaaDoor
