/- Where there is no right sign: whether what is there may be the beginning of one. No program in it. -/
import Derived.Test.YtanmkddmebhdpaaDoorUrd
import Derived.Test.YtanmkddmebhdpaaDoorUth
namespace Go.Proofs.YtanmkddmebhdpaaDoor
set_option maxRecDepth 100000
open Go.Lib

/-- Whether bytes are a whole sign, or can be none, by numbers. -/
def fullN (sz lo hi n b1 b2 : Nat) : Prop := sz ≤ n ∨ (1 < n ∧ (b1 < lo ∨ hi < b1)) ∨ (2 < n ∧ (b2 < 128 ∨ 191 < b2))
def Half (sz lo hi n b1 b2 : Nat) (B : Nat × Int) (D : Nat × Nat) : Prop := D = (65533, 1) → B.1 = 0 ∧ ((fullN sz lo hi n b1 b2 ∧ B.2 = 0) ∨ (¬ fullN sz lo hi n b1 b2 ∧ B.2 = -1))
set_option maxHeartbeats 4000000 in
theorem half_C2 (n b0 b1 b2 b3 : Nat) (_ : 1 ≤ n) (h1 : b1 < 256) (_ : b2 < 256) (_ : b3 < 256) (hb : 194 ≤ b0 ∧ b0 < 224) : Half 2 128 191 n b1 b2 (byN b0 b1 b2 b3 n) (slowN n b0 b1 b2 b3 2 128 191) := by
  have k0 : ¬ b0 < 128 := by omega
  have k1 : 192 ≤ b0 ∧ b0 < 224 := by omega
  unfold byN slowN
  rw [if_neg k0, if_pos k1]
  repeat' split
  all_goals try simp only [exS, pw0, pw1] at *
  all_goals intro hD
  all_goals first
    | (exfalso; omega)
    | (exfalso; injection hD with e1 e2; omega)
    | exact ⟨rfl, .inl ⟨by unfold fullN; omega, rfl⟩⟩
    | exact ⟨rfl, .inr ⟨by unfold fullN; omega, rfl⟩⟩
set_option maxHeartbeats 4000000 in
theorem half_E0 (n b0 b1 b2 b3 : Nat) (_ : 1 ≤ n) (h1 : b1 < 256) (h2 : b2 < 256) (_ : b3 < 256) (hb : b0 = 224) : Half 3 160 191 n b1 b2 (byN b0 b1 b2 b3 n) (slowN n b0 b1 b2 b3 3 160 191) := by
  have k0 : ¬ b0 < 128 := by omega
  have k1 : ¬ (192 ≤ b0 ∧ b0 < 224) := by omega
  have k2 : 224 ≤ b0 ∧ b0 < 240 := by omega
  unfold byN slowN
  rw [if_neg k0, if_neg k1, if_pos k2]
  repeat' split
  all_goals try simp only [exS, pw0, pw1, pw2] at *
  all_goals intro hD
  all_goals first
    | (exfalso; omega)
    | (exfalso; injection hD with e1 e2; omega)
    | exact ⟨rfl, .inl ⟨by unfold fullN; omega, rfl⟩⟩
    | exact ⟨rfl, .inr ⟨by unfold fullN; omega, rfl⟩⟩
set_option maxHeartbeats 4000000 in
theorem half_E1 (n b0 b1 b2 b3 : Nat) (_ : 1 ≤ n) (h1 : b1 < 256) (h2 : b2 < 256) (_ : b3 < 256) (hb : (225 ≤ b0 ∧ b0 < 237) ∨ (238 ≤ b0 ∧ b0 < 240)) : Half 3 128 191 n b1 b2 (byN b0 b1 b2 b3 n) (slowN n b0 b1 b2 b3 3 128 191) := by
  have k0 : ¬ b0 < 128 := by omega
  have k1 : ¬ (192 ≤ b0 ∧ b0 < 224) := by omega
  have k2 : 224 ≤ b0 ∧ b0 < 240 := by omega
  unfold byN slowN
  rw [if_neg k0, if_neg k1, if_pos k2]
  repeat' split
  all_goals try simp only [exS, pw0, pw1, pw2] at *
  all_goals intro hD
  all_goals first
    | (exfalso; omega)
    | (exfalso; injection hD with e1 e2; omega)
    | exact ⟨rfl, .inl ⟨by unfold fullN; omega, rfl⟩⟩
    | exact ⟨rfl, .inr ⟨by unfold fullN; omega, rfl⟩⟩
set_option maxHeartbeats 4000000 in
theorem half_ED (n b0 b1 b2 b3 : Nat) (_ : 1 ≤ n) (h1 : b1 < 256) (h2 : b2 < 256) (_ : b3 < 256) (hb : b0 = 237) : Half 3 128 159 n b1 b2 (byN b0 b1 b2 b3 n) (slowN n b0 b1 b2 b3 3 128 159) := by
  have k0 : ¬ b0 < 128 := by omega
  have k1 : ¬ (192 ≤ b0 ∧ b0 < 224) := by omega
  have k2 : 224 ≤ b0 ∧ b0 < 240 := by omega
  unfold byN slowN
  rw [if_neg k0, if_neg k1, if_pos k2]
  repeat' split
  all_goals try simp only [exS, pw0, pw1, pw2] at *
  all_goals intro hD
  all_goals first
    | (exfalso; omega)
    | (exfalso; injection hD with e1 e2; omega)
    | exact ⟨rfl, .inl ⟨by unfold fullN; omega, rfl⟩⟩
    | exact ⟨rfl, .inr ⟨by unfold fullN; omega, rfl⟩⟩
set_option maxHeartbeats 4000000 in
theorem half_F0 (n b0 b1 b2 b3 : Nat) (_ : 1 ≤ n) (h1 : b1 < 256) (h2 : b2 < 256) (h3 : b3 < 256) (hb : b0 = 240) : Half 4 144 191 n b1 b2 (byN b0 b1 b2 b3 n) (slowN n b0 b1 b2 b3 4 144 191) := by
  have k0 : ¬ b0 < 128 := by omega
  have k1 : ¬ (192 ≤ b0 ∧ b0 < 224) := by omega
  have k2 : ¬ (224 ≤ b0 ∧ b0 < 240) := by omega
  have k3 : 240 ≤ b0 ∧ b0 < 248 := by omega
  unfold byN slowN
  rw [if_neg k0, if_neg k1, if_neg k2, if_pos k3]
  repeat' split
  all_goals try simp only [exS, pw0, pw1, pw2, pw3] at *
  all_goals intro hD
  all_goals first
    | (exfalso; omega)
    | (exfalso; injection hD with e1 e2; omega)
    | exact ⟨rfl, .inl ⟨by unfold fullN; omega, rfl⟩⟩
    | exact ⟨rfl, .inr ⟨by unfold fullN; omega, rfl⟩⟩
set_option maxHeartbeats 4000000 in
theorem half_F1 (n b0 b1 b2 b3 : Nat) (_ : 1 ≤ n) (h1 : b1 < 256) (h2 : b2 < 256) (h3 : b3 < 256) (hb : 241 ≤ b0 ∧ b0 < 244) : Half 4 128 191 n b1 b2 (byN b0 b1 b2 b3 n) (slowN n b0 b1 b2 b3 4 128 191) := by
  have k0 : ¬ b0 < 128 := by omega
  have k1 : ¬ (192 ≤ b0 ∧ b0 < 224) := by omega
  have k2 : ¬ (224 ≤ b0 ∧ b0 < 240) := by omega
  have k3 : 240 ≤ b0 ∧ b0 < 248 := by omega
  unfold byN slowN
  rw [if_neg k0, if_neg k1, if_neg k2, if_pos k3]
  repeat' split
  all_goals try simp only [exS, pw0, pw1, pw2, pw3] at *
  all_goals intro hD
  all_goals first
    | (exfalso; omega)
    | (exfalso; injection hD with e1 e2; omega)
    | exact ⟨rfl, .inl ⟨by unfold fullN; omega, rfl⟩⟩
    | exact ⟨rfl, .inr ⟨by unfold fullN; omega, rfl⟩⟩
set_option maxHeartbeats 4000000 in
theorem half_F4 (n b0 b1 b2 b3 : Nat) (_ : 1 ≤ n) (h1 : b1 < 256) (h2 : b2 < 256) (h3 : b3 < 256) (hb : b0 = 244) : Half 4 128 143 n b1 b2 (byN b0 b1 b2 b3 n) (slowN n b0 b1 b2 b3 4 128 143) := by
  have k0 : ¬ b0 < 128 := by omega
  have k1 : ¬ (192 ≤ b0 ∧ b0 < 224) := by omega
  have k2 : ¬ (224 ≤ b0 ∧ b0 < 240) := by omega
  have k3 : 240 ≤ b0 ∧ b0 < 248 := by omega
  unfold byN slowN
  rw [if_neg k0, if_neg k1, if_neg k2, if_pos k3]
  repeat' split
  all_goals try simp only [exS, pw0, pw1, pw2, pw3] at *
  all_goals intro hD
  all_goals first
    | (exfalso; omega)
    | (exfalso; injection hD with e1 e2; omega)
    | exact ⟨rfl, .inl ⟨by unfold fullN; omega, rfl⟩⟩
    | exact ⟨rfl, .inr ⟨by unfold fullN; omega, rfl⟩⟩
theorem half_N (n b0 b1 b2 b3 : Nat) (hn : 1 ≤ n) (h0 : b0 < 256) (h1 : b1 < 256) (h2 : b2 < 256) (h3 : b3 < 256) :
    Half (firstT b0 % 8) (accLo (firstT b0 / 16)) (accHi (firstT b0 / 16)) n b1 b2 (byN b0 b1 b2 b3 n) (decodeN n b0 b1 b2 b3) := by
  by_cases c0 : b0 < 128
  · have hd : decodeN n b0 b1 b2 b3 = (b0, 1) := by simp [decodeN, c0]
    rw [hd]
    intro e
    injection e
    omega
  · by_cases c1 : b0 < 194 ∨ 244 < b0
    · have hf : firstT b0 = 241 := by
        unfold firstT
        repeat' split
        all_goals omega
      have hb : byN b0 b1 b2 b3 n = (0, 0) := by
        unfold byN
        by_cases q1 : b0 < 192
        · rw [if_neg c0, if_neg (by omega), if_neg (by omega), if_neg (by omega)]
        · by_cases q2 : b0 < 194
          · rw [if_neg c0, if_pos (by omega), if_pos (.inl (by rw [pw1]; omega))]
          · by_cases q3 : b0 < 248
            · rw [if_neg c0, if_neg (by omega), if_neg (by omega), if_pos (by omega), if_pos (.inr (.inl (by rw [pw3]; omega)))]
            · rw [if_neg c0, if_neg (by omega), if_neg (by omega), if_neg (by omega)]
      rw [hb]
      intro _
      exact ⟨rfl, .inl ⟨.inl (by rw [hf]; exact hn), rfl⟩⟩
    · have hx : firstT b0 < 240 := by
        unfold firstT
        repeat' split
        all_goals omega
      rcases firstT_low hx with h | h | h | h | h | h | h
      · rw [← slow_C2 n b0 b1 b2 b3 hn h1 h2 h3 h, firstT_C2 h]; exact half_C2 n b0 b1 b2 b3 hn h1 h2 h3 h
      · rw [← slow_E0 n b0 b1 b2 b3 hn h1 h2 h3 h, firstT_E0 h]; exact half_E0 n b0 b1 b2 b3 hn h1 h2 h3 h
      · rw [← slow_E1 n b0 b1 b2 b3 hn h1 h2 h3 h, firstT_E1 h]; exact half_E1 n b0 b1 b2 b3 hn h1 h2 h3 h
      · rw [← slow_ED n b0 b1 b2 b3 hn h1 h2 h3 h, firstT_ED h]; exact half_ED n b0 b1 b2 b3 hn h1 h2 h3 h
      · rw [← slow_F0 n b0 b1 b2 b3 hn h1 h2 h3 h, firstT_F0 h]; exact half_F0 n b0 b1 b2 b3 hn h1 h2 h3 h
      · rw [← slow_F1 n b0 b1 b2 b3 hn h1 h2 h3 h, firstT_F1 h]; exact half_F1 n b0 b1 b2 b3 hn h1 h2 h3 h
      · rw [← slow_F4 n b0 b1 b2 b3 hn h1 h2 h3 h, firstT_F4 h]; exact half_F4 n b0 b1 b2 b3 hn h1 h2 h3 h
theorem full_iff (l : List UInt8) (hl : l ≠ []) : fullP l = true ↔ fullN (firstT (l.getD 0 0).toNat % 8) (accLo (firstT (l.getD 0 0).toNat / 16)) (accHi (firstT (l.getD 0 0).toNat / 16)) l.length (l.getD 1 0).toNat (l.getD 2 0).toNat := by
  unfold fullP fullN
  rw [if_neg hl]
  by_cases a : firstT (l.getD 0 0).toNat % 8 ≤ l.length
  · rw [if_pos a]
    exact ⟨fun _ => .inl a, fun _ => rfl⟩
  · rw [if_neg a]
    by_cases b : 1 < l.length ∧ ((l.getD 1 0).toNat < accLo (firstT (l.getD 0 0).toNat / 16) ∨ accHi (firstT (l.getD 0 0).toNat / 16) < (l.getD 1 0).toNat)
    · rw [if_pos b]
      exact ⟨fun _ => .inr (.inl b), fun _ => rfl⟩
    · rw [if_neg b]
      by_cases c : 2 < l.length ∧ ((l.getD 2 0).toNat < 128 ∨ 191 < (l.getD 2 0).toNat)
      · rw [if_pos c]
        exact ⟨fun _ => .inr (.inr c), fun _ => rfl⟩
      · rw [if_neg c]
        refine ⟨fun h => absurd h (by decide), fun h => ?_⟩
        rcases h with h | h | h
        · exact absurd h a
        · exact absurd h b
        · exact absurd h c
/-- Where there is no right sign, the reference tells what the program tells. -/
theorem sign_full (l : List UInt8) (hl : l ≠ []) (h : decodeL l = (65533, 1)) : signP l = (0, if fullP l then 0 else -1) := by
  have hN := half_N l.length (l.getD 0 0).toNat (l.getD 1 0).toNat (l.getD 2 0).toNat (l.getD 3 0).toNat (List.length_pos_iff.2 hl) (UInt8.toNat_lt _) (UInt8.toNat_lt _) (UInt8.toNat_lt _) (UInt8.toNat_lt _)
  rw [← decodeL_N, ← signP_byN l hl] at hN
  obtain ⟨h1, h2⟩ := hN h
  rcases h2 with ⟨h2, h3⟩ | ⟨h2, h3⟩
  · rw [(full_iff l hl).2 h2]
    exact Prod.ext h1 h3
  · have : fullP l = false := by
      cases hf : fullP l
      · rfl
      · exact absurd ((full_iff l hl).1 hf) h2
    rw [this]
    exact Prod.ext h1 h3
end Go.Proofs.YtanmkddmebhdpaaDoor
