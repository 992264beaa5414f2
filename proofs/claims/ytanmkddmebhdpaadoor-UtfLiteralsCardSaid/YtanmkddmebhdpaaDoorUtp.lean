/- Signs, their bytes, and texts of signs. No program in it. -/
import Derived.Lib.ValidLaws
import Derived.Lib.RuneBytes
namespace Go.Proofs.YtanmkddmebhdpaaDoor
set_option maxRecDepth 100000
open Go.Lib

/-- A right sign's number. -/
def okc (c : Nat) : Prop := c < 55296 ∨ (57344 ≤ c ∧ c ≤ 1114111)
instance (c : Nat) : Decidable (okc c) := by unfold okc; infer_instance
/-- How many bytes it has. -/
def widC (c : Nat) : Nat := if c < 128 then 1 else if c < 2048 then 2 else if c < 65536 then 3 else 4
/-- A byte by its number. -/
def nb (n : Nat) : UInt8 := UInt8.ofNat n
theorem nb_toNat {n : Nat} (h : n < 256) : (nb n).toNat = n := by unfold nb; rw [UInt8.toNat_ofNat']; omega
theorem nb_of (u : UInt8) : nb u.toNat = u := by unfold nb; simp
theorem nb_eq {n : Nat} {u : UInt8} (h : n = u.toNat) : nb n = u := by rw [h, nb_of]
/-- A sign's bytes. -/
def encB (c : Nat) : List UInt8 :=
  if c < 128 then [nb c]
  else if c < 2048 then [nb (192 + c / 64), nb (128 + c % 64)]
  else if c < 65536 then [nb (224 + c / 4096), nb (128 + c / 64 % 64), nb (128 + c % 64)]
  else [nb (240 + c / 262144), nb (128 + c / 4096 % 64), nb (128 + c / 64 % 64), nb (128 + c % 64)]
theorem encB_length (c : Nat) : (encB c).length = widC c := by
  unfold encB widC
  repeat' split
  all_goals rfl
theorem widC_pos (c : Nat) : 1 ≤ widC c ∧ widC c ≤ 4 := by
  unfold widC
  repeat' split
  all_goals omega
/-- They are the library's. -/
theorem encB_rune (c : Nat) (h : okc c) : encodeRune (c : Int) = encB c := by
  unfold okc at h
  unfold encodeRune encB
  by_cases h1 : c < 128
  · rw [encodeRuneZ_one (by omega) (by omega), if_pos h1]
    simp [nb, Nat.toUInt8]
  · rw [if_neg h1]
    by_cases h2 : c < 2048
    · rw [encodeRuneZ_two (by omega) (by omega), if_pos h2]
      have e1 : (192 + (c : Int) / 64).toNat = 192 + c / 64 := by omega
      have e2 : (128 + (c : Int) % 64).toNat = 128 + c % 64 := by omega
      simp only [List.map_cons, List.map_nil, e1, e2, nb, Nat.toUInt8]
    · rw [if_neg h2]
      by_cases h3 : c < 65536
      · rw [encodeRuneZ_three (by omega), if_pos h3]
        have e1 : (224 + (c : Int) / 4096).toNat = 224 + c / 4096 := by omega
        have e2 : (128 + (c : Int) / 64 % 64).toNat = 128 + c / 64 % 64 := by omega
        have e3 : (128 + (c : Int) % 64).toNat = 128 + c % 64 := by omega
        simp only [List.map_cons, List.map_nil, e1, e2, e3, nb, Nat.toUInt8]
      · rw [encodeRuneZ_four (by omega) (by omega), if_neg h3]
        have e1 : (240 + (c : Int) / 262144).toNat = 240 + c / 262144 := by omega
        have e4 : (128 + (c : Int) / 4096 % 64).toNat = 128 + c / 4096 % 64 := by omega
        have e2 : (128 + (c : Int) / 64 % 64).toNat = 128 + c / 64 % 64 := by omega
        have e3 : (128 + (c : Int) % 64).toNat = 128 + c % 64 := by omega
        simp only [List.map_cons, List.map_nil, e1, e2, e3, e4, nb, Nat.toUInt8]

/-- A text that begins with a sign's bytes begins with that sign. -/
theorem dec_enc (c : Nat) (h : okc c) (r : List UInt8) : decodeL (encB c ++ r) = (c, widC c) := by
  unfold okc at h
  rw [decodeL_N]
  unfold encB widC
  by_cases h1 : c < 128
  · simp only [if_pos h1, List.cons_append, List.nil_append, List.length_cons, List.getD_cons_zero]
    rw [nb_toNat (by omega)]
    unfold decodeN
    rw [if_pos h1]
  · simp only [if_neg h1]
    by_cases h2 : c < 2048
    · simp only [if_pos h2, List.cons_append, List.nil_append, List.length_cons, List.getD_cons_zero, List.getD_cons_succ]
      rw [nb_toNat (by omega), nb_toNat (by omega)]
      unfold decodeN
      rw [if_neg (by omega), if_pos (by omega), if_pos (by omega)]
      congr 1
      omega
    · simp only [if_neg h2]
      by_cases h3 : c < 65536
      · simp only [if_pos h3, List.cons_append, List.nil_append, List.length_cons, List.getD_cons_zero, List.getD_cons_succ]
        rw [nb_toNat (by omega), nb_toNat (by omega), nb_toNat (by omega)]
        unfold decodeN
        rw [if_neg (by omega), if_neg (by omega), if_pos (by omega), if_pos (by omega)]
        congr 1
        omega
      · simp only [if_neg h3, List.cons_append, List.nil_append, List.length_cons, List.getD_cons_zero, List.getD_cons_succ]
        rw [nb_toNat (by omega), nb_toNat (by omega), nb_toNat (by omega), nb_toNat (by omega)]
        unfold decodeN
        rw [if_neg (by omega), if_neg (by omega), if_neg (by omega), if_pos (by omega), if_pos (by omega)]
        congr 1
        omega

theorem encB_two (b0 b1 : UInt8) (c : Nat) (c1 : b0.toNat / 32 = 6) (c3 : b1.toNat / 64 = 2) (cv : 128 ≤ c) (h : b0.toNat % 32 * 64 + b1.toNat % 64 = c) : encB c = [b0, b1] := by
  have k0 := b0.toNat_lt
  have k1 := b1.toNat_lt
  unfold encB
  rw [if_neg (by omega), if_pos (by omega), nb_eq (u := b0) (by omega), nb_eq (u := b1) (by omega)]
theorem encB_three (b0 b1 b2 : UInt8) (c : Nat) (c1 : b0.toNat / 16 = 14) (c2 : b1.toNat / 64 = 2) (c3 : b2.toNat / 64 = 2) (cv : 2048 ≤ c) (h : b0.toNat % 16 * 4096 + b1.toNat % 64 * 64 + b2.toNat % 64 = c) : encB c = [b0, b1, b2] := by
  have k0 := b0.toNat_lt
  have k1 := b1.toNat_lt
  have k2 := b2.toNat_lt
  unfold encB
  rw [if_neg (by omega), if_neg (by omega), if_pos (by omega), nb_eq (u := b0) (by omega), nb_eq (u := b1) (by omega), nb_eq (u := b2) (by omega)]
theorem encB_four (b0 b1 b2 b3 : UInt8) (c : Nat) (c1 : b0.toNat / 8 = 30) (c2 : b1.toNat / 64 = 2) (c3 : b2.toNat / 64 = 2) (c4 : b3.toNat / 64 = 2) (cv : 65536 ≤ c) (h : b0.toNat % 8 * 262144 + b1.toNat % 64 * 4096 + b2.toNat % 64 * 64 + b3.toNat % 64 = c) : encB c = [b0, b1, b2, b3] := by
  have k0 := b0.toNat_lt
  have k1 := b1.toNat_lt
  have k2 := b2.toNat_lt
  have k3 := b3.toNat_lt
  unfold encB
  rw [if_neg (by omega), if_neg (by omega), if_neg (by omega), nb_eq (u := b0) (by omega), nb_eq (u := b1) (by omega), nb_eq (u := b2) (by omega), nb_eq (u := b3) (by omega)]
theorem take_one (l : List UInt8) (h : 0 < l.length) : l = [l.getD 0 0] ++ l.drop 1 := by
  match l, h with
  | _ :: _, _ => rfl
theorem take_two (l : List UInt8) (h : 1 < l.length) : l = [l.getD 0 0, l.getD 1 0] ++ l.drop 2 := by
  match l, h with
  | _ :: _ :: _, _ => rfl
theorem take_three (l : List UInt8) (h : 2 < l.length) : l = [l.getD 0 0, l.getD 1 0, l.getD 2 0] ++ l.drop 3 := by
  match l, h with
  | _ :: _ :: _ :: _, _ => rfl
theorem take_four (l : List UInt8) (h : 3 < l.length) : l = [l.getD 0 0, l.getD 1 0, l.getD 2 0, l.getD 3 0] ++ l.drop 4 := by
  match l, h with
  | _ :: _ :: _ :: _ :: _, _ => rfl
set_option maxHeartbeats 1000000 in
/-- What is no wrong byte is a right sign's bytes. -/
theorem enc_dec (l : List UInt8) (hl : l ≠ []) (h : decodeL l ≠ (65533, 1)) :
    ∃ c r, okc c ∧ decodeL l = (c, widC c) ∧ l = encB c ++ r := by
  have hlen : 0 < l.length := List.length_pos_iff.2 hl
  have key : ∀ c r, okc c → l = encB c ++ r → ∃ c r, okc c ∧ decodeL l = (c, widC c) ∧ l = encB c ++ r := fun c r h1 h2 => ⟨c, r, h1, by rw [h2]; exact dec_enc c h1 r, h2⟩
  rw [decodeL_N] at h
  have k0 := (l.getD 0 0).toNat_lt
  rcases decodeN_shape l.length (l.getD 0 0).toNat (l.getD 1 0).toNat (l.getD 2 0).toNat (l.getD 3 0).toNat with ⟨c0, _⟩ | ⟨c1, c2, c3, cv, _⟩ | ⟨c1, c2, c3, c4, cv, cs, _⟩ | ⟨c1, c2, c3, c4, c5, cv, cw, _⟩ | e
  · refine key (l.getD 0 0).toNat (l.drop 1) (.inl (by omega)) ?_
    have : encB (l.getD 0 0).toNat = [l.getD 0 0] := by unfold encB; rw [if_pos c0, nb_of]
    rw [this]
    exact take_one l hlen
  · obtain ⟨c, hc⟩ : ∃ c, (l.getD 0 0).toNat % 32 * 64 + (l.getD 1 0).toNat % 64 = c := ⟨_, rfl⟩
    rw [hc] at cv
    refine key c (l.drop 2) (.inl (by omega)) ?_
    rw [encB_two _ _ c c1 c3 cv hc]
    exact take_two l c2
  · obtain ⟨c, hc⟩ : ∃ c, (l.getD 0 0).toNat % 16 * 4096 + (l.getD 1 0).toNat % 64 * 64 + (l.getD 2 0).toNat % 64 = c := ⟨_, rfl⟩
    rw [hc] at cv cs
    refine key c (l.drop 3) (by unfold okc; omega) ?_
    rw [encB_three _ _ _ c c1 c3 c4 cv hc]
    exact take_three l c2
  · obtain ⟨c, hc⟩ : ∃ c, (l.getD 0 0).toNat % 8 * 262144 + (l.getD 1 0).toNat % 64 * 4096 + (l.getD 2 0).toNat % 64 * 64 + (l.getD 3 0).toNat % 64 = c := ⟨_, rfl⟩
    rw [hc] at cv cw
    refine key c (l.drop 4) (by unfold okc; omega) ?_
    rw [encB_four _ _ _ _ c c1 c3 c4 c5 cv hc]
    exact take_four l c2
  · exact absurd e h
/-- The bytes of signs. -/
def flatC (cs : List Nat) : List UInt8 := cs.flatMap encB
theorem flatC_cons (c : Nat) (cs : List Nat) : flatC (c :: cs) = encB c ++ flatC cs := rfl
theorem flatC_append (a b : List Nat) : flatC (a ++ b) = flatC a ++ flatC b := by simp [flatC]
/-- Nothing more, or a byte with which no right sign begins. -/
def halt (l : List UInt8) : Prop := l = [] ∨ decodeL l = (65533, 1)
/-- Any text is signs, then nothing or a wrong byte. -/
theorem split_any (n : Nat) : ∀ l : List UInt8, l.length ≤ n → ∃ cs r, l = flatC cs ++ r ∧ (∀ c ∈ cs, okc c) ∧ halt r := by
  induction n with
  | zero =>
    intro l h
    exact ⟨[], [], by simpa [flatC] using List.eq_nil_of_length_eq_zero (by omega), by simp, .inl rfl⟩
  | succ n ih =>
    intro l h
    by_cases h0 : l = []
    · exact ⟨[], [], by simpa [flatC] using h0, by simp, .inl rfl⟩
    · by_cases h1 : decodeL l = (65533, 1)
      · exact ⟨[], l, rfl, by simp, .inr h1⟩
      · obtain ⟨c, r, hc, _, hl⟩ := enc_dec l h0 h1
        obtain ⟨cs, r', e, hcs, hr⟩ := ih r (by
          have := congrArg List.length hl
          rw [List.length_append, encB_length] at this
          have := (widC_pos c).1
          omega)
        refine ⟨c :: cs, r', by rw [hl, e, flatC_cons, List.append_assoc], ?_, hr⟩
        intro x hx
        rcases List.mem_cons.1 hx with rfl | hx
        · exact hc
        · exact hcs x hx
/-- A sign that stands for a wrong byte, or for itself, is told by the bytes. -/
theorem wrong_iff (l : List UInt8) (hl : l ≠ []) : (decodeL l = (65533, 1)) ↔ ((decodeL l).1 = 65533 ∧ l.take 3 ≠ [239, 191, 189]) := by
  by_cases h : decodeL l = (65533, 1)
  · refine ⟨fun _ => ⟨by rw [h], fun h3 => ?_⟩, fun _ => h⟩
    have e : l = encB 65533 ++ l.drop 3 := by
      conv => lhs; rw [← List.take_append_drop 3 l, h3]
      rfl
    rw [e, dec_enc 65533 (by decide)] at h
    exact absurd (congrArg Prod.snd h) (by decide)
  · refine ⟨fun h2 => absurd h2 h, fun ⟨h1, h3⟩ => ?_⟩
    obtain ⟨c, r, _, hd, e⟩ := enc_dec l hl h
    rw [hd] at h1
    have h1 : c = 65533 := h1
    subst h1
    exact absurd (by rw [e]; rfl) h3
end Go.Proofs.YtanmkddmebhdpaaDoor
