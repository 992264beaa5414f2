/- Contract of the reference's Sign. -/
import Derived.Test.YtanmkddmebhdpaaDoorUtu
import Derived.Test.YtanmkddmebhdpaaDoorUrd
namespace Go.Proofs.YtanmkddmebhdpaaDoor
set_option maxRecDepth 20000
open Go.RowKit Go.Lib

/-- What Sign answers. -/
def sigR (p : Nat × Int) : Value := .tuple #[.int .i64 (p.1 : Int), .int .i64 p.2]
theorem signP_cons (b : UInt8) (r : List UInt8) : signP (b :: r) = if b.toNat < 128 then (b.toNat, 1)
    else if 192 ≤ b.toNat ∧ b.toNat < 224 then goS 128 2 1 r (b.toNat - 192)
    else if 224 ≤ b.toNat ∧ b.toNat < 240 then goS 2048 3 2 r (b.toNat - 224)
    else if 240 ≤ b.toNat ∧ b.toNat < 248 then goS 65536 4 3 r (b.toNat - 240)
    else (0, 0) := rfl
theorem goS_ex (least many k x : Nat) (r : List UInt8) (h : exS least x (k + 1)) : goS least many (k + 1) r x = (0, 0) := by
  cases r with
  | nil => rw [goS_nil, if_pos h]
  | cons b r => rw [goS_cons, if_pos h]
theorem pw_succ : ∀ j, j ≤ 2 → pw (j + 1) = pw j * 64
  | 0, _ => rfl
  | 1, _ => rfl
  | 2, _ => rfl
  | j + 3, h => by omega
theorem pw_le : ∀ j, j ≤ 2 → pw j ≤ 4096
  | 0, _ => by decide
  | 1, _ => by decide
  | 2, _ => by decide
  | j + 3, h => by omega
theorem pw_le3 : ∀ j, j ≤ 3 → pw j ≤ 262144
  | 0, _ => by decide
  | 1, _ => by decide
  | 2, _ => by decide
  | 3, _ => by decide
  | j + 4, h => by omega
theorem pw_ge (j : Nat) : 64 ≤ pw (j + 1) := by
  unfold pw
  repeat' split
  all_goals omega
set_option maxHeartbeats 4000000 in
theorem sign_nil (s : ByteArray) (w : World) (h : s.data.toList = []) : Calls Tryd.prog 18 #[.string s] w fun e w' => e = .returned (sigR (signP [])) ∧ w' = w := by
  have hz : s.size = 0 := by rw [Lib.size_eq, h]; rfl
  have hzi : ((s.size : Int) == 0) = true := by rw [hz]; rfl
  clear h
  go_enter Tryd.func18, Tryd.ntmps18
  go_wp2_with fail
  go_ret2
  exact ⟨rfl, rfl⟩
set_option maxHeartbeats 8000000 in
theorem sign_low (s : ByteArray) (w : World) (b : UInt8) (r : List UInt8) (h : s.data.toList = b :: r) (hb : b.toNat < 128) : Calls Tryd.prog 18 #[.string s] w fun e w' => e = .returned (sigR (signP (b :: r))) ∧ w' = w := by
  have hz : s.size = r.length + 1 := by rw [Lib.size_eq, h]; rfl
  have hzi : ((s.size : Int) == 0) = false := by rw [beq_eq_false_iff_ne, hz]; omega
  have k0 := fun w => idx_at s (b :: r) h 0 b rfl w
  simp only [Int.natCast_zero] at k0
  have HF : RowKit.Hid (signP (b :: r) = (b.toNat, 1)) := Lib.hid (by rw [signP_cons]; rw [if_pos hb])
  have hx8 := b.toNat_lt
  obtain ⟨x, hx⟩ : ∃ x, b.toNat = x := ⟨_, rfl⟩
  rw [hx] at k0 HF hb hx8
  have d1 : decide ((x : Int) < 128) = true := decide_eq_true (by omega)
  clear h hz hb hx
  go_enter Tryd.func18, Tryd.ntmps18
  go_wp2_with fail
  go_ret2
  exact ⟨by rw [HF.out]; rfl, rfl⟩
set_option maxHeartbeats 8000000 in
theorem sign_mid (s : ByteArray) (w : World) (b : UInt8) (r : List UInt8) (h : s.data.toList = b :: r) (h1 : 128 ≤ b.toNat) (h2 : b.toNat < 192) : Calls Tryd.prog 18 #[.string s] w fun e w' => e = .returned (sigR (signP (b :: r))) ∧ w' = w := by
  have hz : s.size = r.length + 1 := by rw [Lib.size_eq, h]; rfl
  have hzi : ((s.size : Int) == 0) = false := by rw [beq_eq_false_iff_ne, hz]; omega
  have k0 := fun w => idx_at s (b :: r) h 0 b rfl w
  simp only [Int.natCast_zero] at k0
  have HF : RowKit.Hid (signP (b :: r) = (0, 0)) := Lib.hid (by rw [signP_cons]; rw [if_neg (by omega), if_neg (by omega), if_neg (by omega), if_neg (by omega)])
  have hx8 := b.toNat_lt
  obtain ⟨x, hx⟩ : ∃ x, b.toNat = x := ⟨_, rfl⟩
  rw [hx] at k0 h1 h2 hx8
  have d1 : decide ((x : Int) < 128) = false := decide_eq_false (by omega)
  have d2 : decide ((192 : Int) ≤ (x : Int)) = false := decide_eq_false (by omega)
  have d3 : decide ((224 : Int) ≤ (x : Int)) = false := decide_eq_false (by omega)
  have d4 : decide ((240 : Int) ≤ (x : Int)) = false := decide_eq_false (by omega)
  clear h hz h1 h2 hx
  go_enter Tryd.func18, Tryd.ntmps18
  go_wp2_with fail
  go_ret2
  exact ⟨by rw [HF.out]; rfl, rfl⟩
set_option maxHeartbeats 8000000 in
theorem sign_high (s : ByteArray) (w : World) (b : UInt8) (r : List UInt8) (h : s.data.toList = b :: r) (h1 : 248 ≤ b.toNat) : Calls Tryd.prog 18 #[.string s] w fun e w' => e = .returned (sigR (signP (b :: r))) ∧ w' = w := by
  have hz : s.size = r.length + 1 := by rw [Lib.size_eq, h]; rfl
  have hzi : ((s.size : Int) == 0) = false := by rw [beq_eq_false_iff_ne, hz]; omega
  have k0 := fun w => idx_at s (b :: r) h 0 b rfl w
  simp only [Int.natCast_zero] at k0
  have HF : RowKit.Hid (signP (b :: r) = (0, 0)) := Lib.hid (by rw [signP_cons]; rw [if_neg (by omega), if_neg (by omega), if_neg (by omega), if_neg (by omega)])
  have hx8 := b.toNat_lt
  obtain ⟨x, hx⟩ : ∃ x, b.toNat = x := ⟨_, rfl⟩
  rw [hx] at k0 h1 hx8
  have d1 : decide ((x : Int) < 128) = false := decide_eq_false (by omega)
  have d2 : decide ((192 : Int) ≤ (x : Int)) = true := decide_eq_true (by omega)
  have d22 : decide ((x : Int) < 224) = false := decide_eq_false (by omega)
  have d3 : decide ((224 : Int) ≤ (x : Int)) = true := decide_eq_true (by omega)
  have d32 : decide ((x : Int) < 240) = false := decide_eq_false (by omega)
  have d4 : decide ((240 : Int) ≤ (x : Int)) = true := decide_eq_true (by omega)
  have d42 : decide ((x : Int) < 248) = false := decide_eq_false (by omega)
  clear h hz h1 hx
  go_enter Tryd.func18, Tryd.ntmps18
  go_wp2_with fail
  go_ret2
  exact ⟨by rw [HF.out]; rfl, rfl⟩
set_option maxHeartbeats 8000000 in
theorem sign_two (s : ByteArray) (w : World) (b : UInt8) (r : List UInt8) (h : s.data.toList = b :: r) (h1 : 192 ≤ b.toNat) (h2 : b.toNat < 224) : Calls Tryd.prog 18 #[.string s] w fun e w' => e = .returned (sigR (signP (b :: r))) ∧ w' = w := by
  have hz : s.size = r.length + 1 := by rw [Lib.size_eq, h]; rfl
  have hzi : ((s.size : Int) == 0) = false := by rw [beq_eq_false_iff_ne, hz]; omega
  have k0 := fun w => idx_at s (b :: r) h 0 b rfl w
  simp only [Int.natCast_zero] at k0
  have HF : RowKit.Hid (signP (b :: r) = goS 128 2 1 r (b.toNat - 192)) := Lib.hid (by rw [signP_cons]; rw [if_neg (by omega), if_pos (by omega)])
  have hx8 := b.toNat_lt
  obtain ⟨x, hx⟩ : ∃ x, b.toNat = x := ⟨_, rfl⟩
  rw [hx] at k0 HF h1 h2 hx8
  have d1 : decide ((x : Int) < 128) = false := decide_eq_false (by omega)
  have d2 : decide ((192 : Int) ≤ (x : Int)) = true := decide_eq_true (by omega)
  have d22 : decide ((x : Int) < 224) = true := decide_eq_true (by omega)
  obtain ⟨y0, hy0⟩ : ∃ y0, x - 192 = y0 := ⟨_, rfl⟩
  have e0 : (x : Int) - 192 = (y0 : Int) := by omega
  have HY : RowKit.Hid (y0 ≤ 1114174) := Lib.hid (by omega)
  rw [hy0] at HF
  obtain ⟨X, hX⟩ : ∃ X, signP (b :: r) = X := ⟨_, rfl⟩
  rw [hX] at HF ⊢
  obtain ⟨L, hL⟩ : ∃ L, b :: r = L := ⟨_, rfl⟩
  have HR : RowKit.Hid (L.drop 1 = r) := Lib.hid (by rw [← hL]; rfl)
  rw [hL] at h
  have hLn : s.size = L.length := by rw [Lib.size_eq, h]
  have HL := Lib.hid h
  have HLN := Lib.hid hLn
  clear h hz hLn h1 h2 hx hy0 hX hL
  go_enter Tryd.func18, Tryd.ntmps18
  go_wp2_with fail
  clear d1 d2 d22 hx8 e0 k0
  go_loopw [6, 8] (fun a c wr => ∃ y i : Nat, a = .int .i64 (y : Int) ∧ c = .int .i64 (i : Int) ∧ 1 ≤ i ∧ i ≤ 2 ∧ y ≤ 1114174 ∧ goS 128 2 (2 - i) (L.drop i) y = X ∧ wr = w) (fun _ c _ => 2 - (intOf c).toNat)
  case atStart => exact ⟨y0, 1, rfl, rfl, by decide, by decide, HY.out, by rw [HR.out]; exact HF.out.symm, rfl⟩
  case round =>
    clear HF HY HR
    obtain ⟨y, i, rfl, rfl, hi1, hi2, hy, hk, hw⟩ := hrel
    have HK := Lib.hid hk
    have HW := Lib.hid hw
    clear hk hw
    by_cases hi4 : i = 2
    · subst hi4
      have hz := HK.out
      rw [Nat.sub_self, goS_zero] at hz
      have hex : exS 128 y 0 ↔ (y < 128 ∨ 1114111 < y ∨ (55296 ≤ y ∧ y ≤ 57343)) := by unfold exS; rw [pw0, Nat.mul_one, Nat.mul_one, Nat.add_sub_cancel]
      by_cases c1 : y < 128
      · rw [if_pos (hex.2 (.inl c1))] at hz
        have HE := Lib.hid hz
        have d1 : decide ((y : Int) < 128) = true := decide_eq_true (by omega)
        clear hex HK hz hi1 hi2 c1
        go_wp2_with fail
        go_ret2
        exact ⟨by rw [← HE.out]; rfl, HW.out⟩
      · have d1 : decide ((y : Int) < 128) = false := decide_eq_false (by omega)
        by_cases c2 : 1114111 < y
        · rw [if_pos (hex.2 (.inr (.inl c2)))] at hz
          have HE := Lib.hid hz
          have d2 : decide ((1114111 : Int) < (y : Int)) = true := decide_eq_true (by omega)
          clear hex HK hz hi1 hi2 c1 c2
          go_wp2_with fail
          go_ret2
          exact ⟨by rw [← HE.out]; rfl, HW.out⟩
        · have d2 : decide ((1114111 : Int) < (y : Int)) = false := decide_eq_false (by omega)
          by_cases c3 : 55296 ≤ y
          · have d3 : decide ((55296 : Int) ≤ (y : Int)) = true := decide_eq_true (by omega)
            by_cases c4 : y ≤ 57343
            · rw [if_pos (hex.2 (.inr (.inr ⟨c3, c4⟩)))] at hz
              have HE := Lib.hid hz
              have d4 : decide ((y : Int) ≤ 57343) = true := decide_eq_true (by omega)
              clear hex HK hz hi1 hi2 c1 c2 c3 c4
              go_wp2_with fail
              go_ret2
              exact ⟨by rw [← HE.out]; rfl, HW.out⟩
            · rw [if_neg (fun h => by rcases hex.1 h with h | h | h <;> omega)] at hz
              have HE := Lib.hid hz
              have d4 : decide ((y : Int) ≤ 57343) = false := decide_eq_false (by omega)
              clear hex HK hz hi1 hi2 c1 c2 c3 c4
              go_wp2_with fail
              go_ret2
              exact ⟨by rw [← HE.out]; rfl, HW.out⟩
          · have d3 : decide ((55296 : Int) ≤ (y : Int)) = false := decide_eq_false (by omega)
            rw [if_neg (fun h => by rcases hex.1 h with h | h | h <;> omega)] at hz
            have HE := Lib.hid hz
            clear hex HK hz hi1 hi2 c1 c2 c3
            go_wp2_with fail
            go_ret2
            exact ⟨by rw [← HE.out]; rfl, HW.out⟩
    · have dl : decide ((i : Int) < 2) = true := decide_eq_true (by omega)
      obtain ⟨m, hm⟩ : ∃ m, 2 - i = m + 1 := ⟨2 - 1 - i, by omega⟩
      have hM : m + 1 + i = 2 := by omega
      rw [hm] at HK
      have HH := Lib.hid (And.intro hi1 hM)
      clear hm hi1 hi2 hi4 hM
      go_wp2_with fail
      go_loopw [9, 10, 11] (fun a c d wr2 => ∃ lo hi k j : Nat, a = .int .i64 (lo : Int) ∧ c = .int .i64 (hi : Int) ∧ d = .int .i64 (k : Int) ∧ k = i + j ∧ k ≤ 2 ∧ lo = y * pw j ∧ hi + 1 = (y + 1) * pw j ∧ wr2 = wr) (fun _ _ d _ => 2 - (intOf d).toNat)
      case atStart => exact ⟨y, y, i, 0, rfl, rfl, rfl, rfl, by have := HH.out.2; omega, by rw [pw0, Nat.mul_one], by rw [pw0, Nat.mul_one], rfl⟩
      case round =>
        obtain ⟨lo, hi, k, j, rfl, rfl, rfl, hkj, hkm, hlo, hhi, hw2⟩ := hrel
        have HW2 := Lib.hid (hw2.trans HW.out)
        have HW3 := Lib.hid hw2
        clear hw2
        by_cases hk4 : k = 2
        · have hjm : j = m + 1 := by have := HH.out.2; omega
          have hi1 := HH.out.1
          have hm2 : m + 1 ≤ 3 := by have := HH.out.2; omega
          have dk : decide ((k : Int) < 2) = false := decide_eq_false (by omega)
          have hex : exS 128 y (m + 1) ↔ (hi < 128 ∨ 1114111 < lo ∨ (55296 ≤ lo ∧ hi ≤ 57343)) := by unfold exS; rw [← hjm, ← hlo, ← hhi, Nat.add_sub_cancel]
          have hlo2 : y * 64 ≤ lo := by rw [hlo, hjm]; exact Nat.mul_le_mul_left y (pw_ge m)
          clear hlo hhi hkj hjm
          have HX := Lib.hid hex
          have HK2 := Lib.hid (fun h => goS_ex 128 2 m y (L.drop i) h)
          rw [HK.out] at HK2
          by_cases hE : exS 128 y (m + 1)
          · have HE := Lib.hid (HK2.out hE)
            have hor := hex.1 hE
            clear hex HX HK2 hE HK hm2 hi1 hlo2 hkm hy
            by_cases c1 : hi < 128
            · have d1 : decide ((hi : Int) < 128) = true := decide_eq_true (by omega)
              clear hor c1
              go_wp2_with fail
              go_ret2
              exact ⟨by rw [HE.out]; rfl, HW2.out⟩
            · have d1 : decide ((hi : Int) < 128) = false := decide_eq_false (by omega)
              by_cases c2 : 1114111 < lo
              · have d2 : decide ((1114111 : Int) < (lo : Int)) = true := decide_eq_true (by omega)
                clear hor c1 c2
                go_wp2_with fail
                go_ret2
                exact ⟨by rw [HE.out]; rfl, HW2.out⟩
              · have d2 : decide ((1114111 : Int) < (lo : Int)) = false := decide_eq_false (by omega)
                have d3 : decide ((55296 : Int) ≤ (lo : Int)) = true := decide_eq_true (by omega)
                have d4 : decide ((hi : Int) ≤ 57343) = true := decide_eq_true (by omega)
                clear hor c1 c2
                go_wp2_with fail
                go_ret2
                exact ⟨by rw [HE.out]; rfl, HW2.out⟩
          · have hnor : ¬ (hi < 128 ∨ 1114111 < lo ∨ (55296 ≤ lo ∧ hi ≤ 57343)) := fun h => hE (hex.2 h)
            have d1 : decide ((hi : Int) < 128) = false := decide_eq_false (by omega)
            have d2 : decide ((1114111 : Int) < (lo : Int)) = false := decide_eq_false (by omega)
            have d34 : decide ((55296 : Int) ≤ (lo : Int)) = false ∨ (decide ((55296 : Int) ≤ (lo : Int)) = true ∧ decide ((hi : Int) ≤ 57343) = false) := by
              by_cases c3 : 55296 ≤ lo
              · exact .inr ⟨decide_eq_true (by omega), decide_eq_false (by omega)⟩
              · exact .inl (decide_eq_false (by omega))
            have hy2 : y * 64 ≤ 1114111 := by omega
            have HE := Lib.hid hE
            have HY := Lib.hid (And.intro hm2 hi1)
            clear hex HX HK2 hE hnor hlo2 hkm hy hm2 hi1
            by_cases hlt : i < L.length
            · obtain ⟨u, hu⟩ : ∃ u, L[i]? = some u := ⟨L[i], List.getElem?_eq_getElem hlt⟩
              have hd : L.drop i = u :: L.drop (i + 1) := by
                have := (List.getElem?_eq_some_iff.1 hu).2
                rw [List.drop_eq_getElem_cons hlt, this]
              have hkk := HK.out
              rw [hd, goS_cons, if_neg HE.out] at hkk
              have ki := fun w => idx_at s L HL.out i u hu w
              have hu8 := u.toNat_lt
              obtain ⟨v, hv⟩ : ∃ v, u.toNat = v := ⟨_, rfl⟩
              rw [hv] at hkk ki hu8
              have hn1 : s.size = L.length := HLN.out
              have d5 : decide ((s.size : Int) ≤ (i : Int)) = false := decide_eq_false (by omega)
              have d5n : decide (s.size ≤ i) = false := decide_eq_false (by omega)
              have d5l : decide (L.length ≤ i) = false := decide_eq_false (by omega)
              clear hn1 hd hu hv hlt
              by_cases c1 : v < 128
              · rw [if_pos (.inl c1)] at hkk
                have HKK := Lib.hid hkk
                have d6 : decide ((v : Int) < 128) = true := decide_eq_true (by omega)
                clear hkk c1
                rcases d34 with d3 | ⟨d3, d4⟩
                all_goals
                  go_wp2_with fail
                  go_ret2
                  exact ⟨by rw [← HKK.out]; rfl, HW2.out⟩
              · have d6 : decide ((v : Int) < 128) = false := decide_eq_false (by omega)
                by_cases c2 : 192 ≤ v
                · rw [if_pos (.inr c2)] at hkk
                  have HKK := Lib.hid hkk
                  have d7 : decide ((192 : Int) ≤ (v : Int)) = true := decide_eq_true (by omega)
                  clear hkk c1 c2
                  rcases d34 with d3 | ⟨d3, d4⟩
                  all_goals
                    go_wp2_with fail
                    go_ret2
                    exact ⟨by rw [← HKK.out]; rfl, HW2.out⟩
                · rw [if_neg (by omega)] at hkk
                  have d7 : decide ((192 : Int) ≤ (v : Int)) = false := decide_eq_false (by omega)
                  obtain ⟨y2, hy3⟩ : ∃ y2, y * 64 + v - 128 = y2 := ⟨_, rfl⟩
                  have e9 : (y : Int) * 64 + (v : Int) - 128 = (y2 : Int) := by omega
                  rw [hy3] at hkk
                  have HKK := Lib.hid (And.intro hkk (show y2 ≤ 1114174 by omega))
                  have hib : i ≤ 3 := by have := HH.out.2; omega
                  clear hkk c1 c2 hy3
                  rcases d34 with d3 | ⟨d3, d4⟩
                  all_goals
                    go_wp2_with fail
                    go_roundw
                    case rel => exact ⟨y2, i + 1, rfl, by simp, by omega, by have := HH.out.2; omega, HKK.out.2, by have h := HKK.out.1; rwa [show m = 2 - (i + 1) by have := HH.out.2; omega] at h, HW2.out⟩
                    case measure => have := HH.out.2; simp [intOf]; omega
            · have hkk := HK.out
              rw [List.drop_eq_nil_of_le (by omega), goS_nil, if_neg HE.out] at hkk
              have HKK := Lib.hid hkk
              have hn1 : s.size = L.length := HLN.out
              have d5 : decide ((s.size : Int) ≤ (i : Int)) = true := decide_eq_true (by omega)
              have d5n : decide (s.size ≤ i) = true := decide_eq_true (by omega)
              have d5l : decide (L.length ≤ i) = true := decide_eq_true (by omega)
              clear hn1 hkk hlt
              rcases d34 with d3 | ⟨d3, d4⟩
              all_goals
                go_wp2_with fail
                go_ret2
                exact ⟨by rw [← HKK.out]; rfl, HW2.out⟩
        · have hj2 : j ≤ 2 := by have h1 := HH.out.1; omega
          have dk : decide ((k : Int) < 2) = true := decide_eq_true (by omega)
          have hl1 : lo ≤ 1114174 * 4096 := by rw [hlo]; exact Nat.mul_le_mul hy (pw_le j hj2)
          have hh1 : hi + 1 ≤ 1114175 * 4096 := by rw [hhi]; exact Nat.mul_le_mul (by omega) (pw_le j hj2)
          have HNX : RowKit.Hid (lo * 64 = y * pw (j + 1) ∧ hi * 64 + 63 + 1 = (y + 1) * pw (j + 1)) := Lib.hid ⟨by rw [hlo, pw_succ j hj2, Nat.mul_assoc], by rw [pw_succ j hj2, ← Nat.mul_assoc, ← hhi]; omega⟩
          have HQ := Lib.hid (And.intro hkj (show k + 1 ≤ 2 by omega))
          have hkb : k ≤ 4 := by omega
          clear hlo hhi hj2 hkj hkm hk4 HK
          go_wp2_with fail
          go_roundw
          case rel => exact ⟨lo * 64, hi * 64 + 63, k + 1, j + 1, by simp, by simp, by simp, by rw [HQ.out.1]; rfl, HQ.out.2, HNX.out.1, HNX.out.2, HW3.out⟩
          case measure => have := HQ.out.2; simp [intOf]; omega
set_option maxHeartbeats 8000000 in
theorem sign_three (s : ByteArray) (w : World) (b : UInt8) (r : List UInt8) (h : s.data.toList = b :: r) (h1 : 224 ≤ b.toNat) (h2 : b.toNat < 240) : Calls Tryd.prog 18 #[.string s] w fun e w' => e = .returned (sigR (signP (b :: r))) ∧ w' = w := by
  have hz : s.size = r.length + 1 := by rw [Lib.size_eq, h]; rfl
  have hzi : ((s.size : Int) == 0) = false := by rw [beq_eq_false_iff_ne, hz]; omega
  have k0 := fun w => idx_at s (b :: r) h 0 b rfl w
  simp only [Int.natCast_zero] at k0
  have HF : RowKit.Hid (signP (b :: r) = goS 2048 3 2 r (b.toNat - 224)) := Lib.hid (by rw [signP_cons]; rw [if_neg (by omega), if_neg (by omega), if_pos (by omega)])
  have hx8 := b.toNat_lt
  obtain ⟨x, hx⟩ : ∃ x, b.toNat = x := ⟨_, rfl⟩
  rw [hx] at k0 HF h1 h2 hx8
  have d1 : decide ((x : Int) < 128) = false := decide_eq_false (by omega)
  have d2 : decide ((192 : Int) ≤ (x : Int)) = true := decide_eq_true (by omega)
  have d22 : decide ((x : Int) < 224) = false := decide_eq_false (by omega)
  have d3 : decide ((224 : Int) ≤ (x : Int)) = true := decide_eq_true (by omega)
  have d32 : decide ((x : Int) < 240) = true := decide_eq_true (by omega)
  obtain ⟨y0, hy0⟩ : ∃ y0, x - 224 = y0 := ⟨_, rfl⟩
  have e0 : (x : Int) - 224 = (y0 : Int) := by omega
  have HY : RowKit.Hid (y0 ≤ 1114174) := Lib.hid (by omega)
  rw [hy0] at HF
  obtain ⟨X, hX⟩ : ∃ X, signP (b :: r) = X := ⟨_, rfl⟩
  rw [hX] at HF ⊢
  obtain ⟨L, hL⟩ : ∃ L, b :: r = L := ⟨_, rfl⟩
  have HR : RowKit.Hid (L.drop 1 = r) := Lib.hid (by rw [← hL]; rfl)
  rw [hL] at h
  have hLn : s.size = L.length := by rw [Lib.size_eq, h]
  have HL := Lib.hid h
  have HLN := Lib.hid hLn
  clear h hz hLn h1 h2 hx hy0 hX hL
  go_enter Tryd.func18, Tryd.ntmps18
  go_wp2_with fail
  clear d1 d2 d22 d3 d32 hx8 e0 k0
  go_loopw [6, 8] (fun a c wr => ∃ y i : Nat, a = .int .i64 (y : Int) ∧ c = .int .i64 (i : Int) ∧ 1 ≤ i ∧ i ≤ 3 ∧ y ≤ 1114174 ∧ goS 2048 3 (3 - i) (L.drop i) y = X ∧ wr = w) (fun _ c _ => 3 - (intOf c).toNat)
  case atStart => exact ⟨y0, 1, rfl, rfl, by decide, by decide, HY.out, by rw [HR.out]; exact HF.out.symm, rfl⟩
  case round =>
    clear HF HY HR
    obtain ⟨y, i, rfl, rfl, hi1, hi2, hy, hk, hw⟩ := hrel
    have HK := Lib.hid hk
    have HW := Lib.hid hw
    clear hk hw
    by_cases hi4 : i = 3
    · subst hi4
      have hz := HK.out
      rw [Nat.sub_self, goS_zero] at hz
      have hex : exS 2048 y 0 ↔ (y < 2048 ∨ 1114111 < y ∨ (55296 ≤ y ∧ y ≤ 57343)) := by unfold exS; rw [pw0, Nat.mul_one, Nat.mul_one, Nat.add_sub_cancel]
      by_cases c1 : y < 2048
      · rw [if_pos (hex.2 (.inl c1))] at hz
        have HE := Lib.hid hz
        have d1 : decide ((y : Int) < 2048) = true := decide_eq_true (by omega)
        clear hex HK hz hi1 hi2 c1
        go_wp2_with fail
        go_ret2
        exact ⟨by rw [← HE.out]; rfl, HW.out⟩
      · have d1 : decide ((y : Int) < 2048) = false := decide_eq_false (by omega)
        by_cases c2 : 1114111 < y
        · rw [if_pos (hex.2 (.inr (.inl c2)))] at hz
          have HE := Lib.hid hz
          have d2 : decide ((1114111 : Int) < (y : Int)) = true := decide_eq_true (by omega)
          clear hex HK hz hi1 hi2 c1 c2
          go_wp2_with fail
          go_ret2
          exact ⟨by rw [← HE.out]; rfl, HW.out⟩
        · have d2 : decide ((1114111 : Int) < (y : Int)) = false := decide_eq_false (by omega)
          by_cases c3 : 55296 ≤ y
          · have d3 : decide ((55296 : Int) ≤ (y : Int)) = true := decide_eq_true (by omega)
            by_cases c4 : y ≤ 57343
            · rw [if_pos (hex.2 (.inr (.inr ⟨c3, c4⟩)))] at hz
              have HE := Lib.hid hz
              have d4 : decide ((y : Int) ≤ 57343) = true := decide_eq_true (by omega)
              clear hex HK hz hi1 hi2 c1 c2 c3 c4
              go_wp2_with fail
              go_ret2
              exact ⟨by rw [← HE.out]; rfl, HW.out⟩
            · rw [if_neg (fun h => by rcases hex.1 h with h | h | h <;> omega)] at hz
              have HE := Lib.hid hz
              have d4 : decide ((y : Int) ≤ 57343) = false := decide_eq_false (by omega)
              clear hex HK hz hi1 hi2 c1 c2 c3 c4
              go_wp2_with fail
              go_ret2
              exact ⟨by rw [← HE.out]; rfl, HW.out⟩
          · have d3 : decide ((55296 : Int) ≤ (y : Int)) = false := decide_eq_false (by omega)
            rw [if_neg (fun h => by rcases hex.1 h with h | h | h <;> omega)] at hz
            have HE := Lib.hid hz
            clear hex HK hz hi1 hi2 c1 c2 c3
            go_wp2_with fail
            go_ret2
            exact ⟨by rw [← HE.out]; rfl, HW.out⟩
    · have dl : decide ((i : Int) < 3) = true := decide_eq_true (by omega)
      obtain ⟨m, hm⟩ : ∃ m, 3 - i = m + 1 := ⟨3 - 1 - i, by omega⟩
      have hM : m + 1 + i = 3 := by omega
      rw [hm] at HK
      have HH := Lib.hid (And.intro hi1 hM)
      clear hm hi1 hi2 hi4 hM
      go_wp2_with fail
      go_loopw [9, 10, 11] (fun a c d wr2 => ∃ lo hi k j : Nat, a = .int .i64 (lo : Int) ∧ c = .int .i64 (hi : Int) ∧ d = .int .i64 (k : Int) ∧ k = i + j ∧ k ≤ 3 ∧ lo = y * pw j ∧ hi + 1 = (y + 1) * pw j ∧ wr2 = wr) (fun _ _ d _ => 3 - (intOf d).toNat)
      case atStart => exact ⟨y, y, i, 0, rfl, rfl, rfl, rfl, by have := HH.out.2; omega, by rw [pw0, Nat.mul_one], by rw [pw0, Nat.mul_one], rfl⟩
      case round =>
        obtain ⟨lo, hi, k, j, rfl, rfl, rfl, hkj, hkm, hlo, hhi, hw2⟩ := hrel
        have HW2 := Lib.hid (hw2.trans HW.out)
        have HW3 := Lib.hid hw2
        clear hw2
        by_cases hk4 : k = 3
        · have hjm : j = m + 1 := by have := HH.out.2; omega
          have hi1 := HH.out.1
          have hm2 : m + 1 ≤ 3 := by have := HH.out.2; omega
          have dk : decide ((k : Int) < 3) = false := decide_eq_false (by omega)
          have hex : exS 2048 y (m + 1) ↔ (hi < 2048 ∨ 1114111 < lo ∨ (55296 ≤ lo ∧ hi ≤ 57343)) := by unfold exS; rw [← hjm, ← hlo, ← hhi, Nat.add_sub_cancel]
          have hlo2 : y * 64 ≤ lo := by rw [hlo, hjm]; exact Nat.mul_le_mul_left y (pw_ge m)
          clear hlo hhi hkj hjm
          have HX := Lib.hid hex
          have HK2 := Lib.hid (fun h => goS_ex 2048 3 m y (L.drop i) h)
          rw [HK.out] at HK2
          by_cases hE : exS 2048 y (m + 1)
          · have HE := Lib.hid (HK2.out hE)
            have hor := hex.1 hE
            clear hex HX HK2 hE HK hm2 hi1 hlo2 hkm hy
            by_cases c1 : hi < 2048
            · have d1 : decide ((hi : Int) < 2048) = true := decide_eq_true (by omega)
              clear hor c1
              go_wp2_with fail
              go_ret2
              exact ⟨by rw [HE.out]; rfl, HW2.out⟩
            · have d1 : decide ((hi : Int) < 2048) = false := decide_eq_false (by omega)
              by_cases c2 : 1114111 < lo
              · have d2 : decide ((1114111 : Int) < (lo : Int)) = true := decide_eq_true (by omega)
                clear hor c1 c2
                go_wp2_with fail
                go_ret2
                exact ⟨by rw [HE.out]; rfl, HW2.out⟩
              · have d2 : decide ((1114111 : Int) < (lo : Int)) = false := decide_eq_false (by omega)
                have d3 : decide ((55296 : Int) ≤ (lo : Int)) = true := decide_eq_true (by omega)
                have d4 : decide ((hi : Int) ≤ 57343) = true := decide_eq_true (by omega)
                clear hor c1 c2
                go_wp2_with fail
                go_ret2
                exact ⟨by rw [HE.out]; rfl, HW2.out⟩
          · have hnor : ¬ (hi < 2048 ∨ 1114111 < lo ∨ (55296 ≤ lo ∧ hi ≤ 57343)) := fun h => hE (hex.2 h)
            have d1 : decide ((hi : Int) < 2048) = false := decide_eq_false (by omega)
            have d2 : decide ((1114111 : Int) < (lo : Int)) = false := decide_eq_false (by omega)
            have d34 : decide ((55296 : Int) ≤ (lo : Int)) = false ∨ (decide ((55296 : Int) ≤ (lo : Int)) = true ∧ decide ((hi : Int) ≤ 57343) = false) := by
              by_cases c3 : 55296 ≤ lo
              · exact .inr ⟨decide_eq_true (by omega), decide_eq_false (by omega)⟩
              · exact .inl (decide_eq_false (by omega))
            have hy2 : y * 64 ≤ 1114111 := by omega
            have HE := Lib.hid hE
            have HY := Lib.hid (And.intro hm2 hi1)
            clear hex HX HK2 hE hnor hlo2 hkm hy hm2 hi1
            by_cases hlt : i < L.length
            · obtain ⟨u, hu⟩ : ∃ u, L[i]? = some u := ⟨L[i], List.getElem?_eq_getElem hlt⟩
              have hd : L.drop i = u :: L.drop (i + 1) := by
                have := (List.getElem?_eq_some_iff.1 hu).2
                rw [List.drop_eq_getElem_cons hlt, this]
              have hkk := HK.out
              rw [hd, goS_cons, if_neg HE.out] at hkk
              have ki := fun w => idx_at s L HL.out i u hu w
              have hu8 := u.toNat_lt
              obtain ⟨v, hv⟩ : ∃ v, u.toNat = v := ⟨_, rfl⟩
              rw [hv] at hkk ki hu8
              have hn1 : s.size = L.length := HLN.out
              have d5 : decide ((s.size : Int) ≤ (i : Int)) = false := decide_eq_false (by omega)
              have d5n : decide (s.size ≤ i) = false := decide_eq_false (by omega)
              have d5l : decide (L.length ≤ i) = false := decide_eq_false (by omega)
              clear hn1 hd hu hv hlt
              by_cases c1 : v < 128
              · rw [if_pos (.inl c1)] at hkk
                have HKK := Lib.hid hkk
                have d6 : decide ((v : Int) < 128) = true := decide_eq_true (by omega)
                clear hkk c1
                rcases d34 with d3 | ⟨d3, d4⟩
                all_goals
                  go_wp2_with fail
                  go_ret2
                  exact ⟨by rw [← HKK.out]; rfl, HW2.out⟩
              · have d6 : decide ((v : Int) < 128) = false := decide_eq_false (by omega)
                by_cases c2 : 192 ≤ v
                · rw [if_pos (.inr c2)] at hkk
                  have HKK := Lib.hid hkk
                  have d7 : decide ((192 : Int) ≤ (v : Int)) = true := decide_eq_true (by omega)
                  clear hkk c1 c2
                  rcases d34 with d3 | ⟨d3, d4⟩
                  all_goals
                    go_wp2_with fail
                    go_ret2
                    exact ⟨by rw [← HKK.out]; rfl, HW2.out⟩
                · rw [if_neg (by omega)] at hkk
                  have d7 : decide ((192 : Int) ≤ (v : Int)) = false := decide_eq_false (by omega)
                  obtain ⟨y2, hy3⟩ : ∃ y2, y * 64 + v - 128 = y2 := ⟨_, rfl⟩
                  have e9 : (y : Int) * 64 + (v : Int) - 128 = (y2 : Int) := by omega
                  rw [hy3] at hkk
                  have HKK := Lib.hid (And.intro hkk (show y2 ≤ 1114174 by omega))
                  have hib : i ≤ 3 := by have := HH.out.2; omega
                  clear hkk c1 c2 hy3
                  rcases d34 with d3 | ⟨d3, d4⟩
                  all_goals
                    go_wp2_with fail
                    go_roundw
                    case rel => exact ⟨y2, i + 1, rfl, by simp, by omega, by have := HH.out.2; omega, HKK.out.2, by have h := HKK.out.1; rwa [show m = 3 - (i + 1) by have := HH.out.2; omega] at h, HW2.out⟩
                    case measure => have := HH.out.2; simp [intOf]; omega
            · have hkk := HK.out
              rw [List.drop_eq_nil_of_le (by omega), goS_nil, if_neg HE.out] at hkk
              have HKK := Lib.hid hkk
              have hn1 : s.size = L.length := HLN.out
              have d5 : decide ((s.size : Int) ≤ (i : Int)) = true := decide_eq_true (by omega)
              have d5n : decide (s.size ≤ i) = true := decide_eq_true (by omega)
              have d5l : decide (L.length ≤ i) = true := decide_eq_true (by omega)
              clear hn1 hkk hlt
              rcases d34 with d3 | ⟨d3, d4⟩
              all_goals
                go_wp2_with fail
                go_ret2
                exact ⟨by rw [← HKK.out]; rfl, HW2.out⟩
        · have hj2 : j ≤ 2 := by have h1 := HH.out.1; omega
          have dk : decide ((k : Int) < 3) = true := decide_eq_true (by omega)
          have hl1 : lo ≤ 1114174 * 4096 := by rw [hlo]; exact Nat.mul_le_mul hy (pw_le j hj2)
          have hh1 : hi + 1 ≤ 1114175 * 4096 := by rw [hhi]; exact Nat.mul_le_mul (by omega) (pw_le j hj2)
          have HNX : RowKit.Hid (lo * 64 = y * pw (j + 1) ∧ hi * 64 + 63 + 1 = (y + 1) * pw (j + 1)) := Lib.hid ⟨by rw [hlo, pw_succ j hj2, Nat.mul_assoc], by rw [pw_succ j hj2, ← Nat.mul_assoc, ← hhi]; omega⟩
          have HQ := Lib.hid (And.intro hkj (show k + 1 ≤ 3 by omega))
          have hkb : k ≤ 4 := by omega
          clear hlo hhi hj2 hkj hkm hk4 HK
          go_wp2_with fail
          go_roundw
          case rel => exact ⟨lo * 64, hi * 64 + 63, k + 1, j + 1, by simp, by simp, by simp, by rw [HQ.out.1]; rfl, HQ.out.2, HNX.out.1, HNX.out.2, HW3.out⟩
          case measure => have := HQ.out.2; simp [intOf]; omega
set_option maxHeartbeats 8000000 in
theorem sign_four (s : ByteArray) (w : World) (b : UInt8) (r : List UInt8) (h : s.data.toList = b :: r) (h1 : 240 ≤ b.toNat) (h2 : b.toNat < 248) : Calls Tryd.prog 18 #[.string s] w fun e w' => e = .returned (sigR (signP (b :: r))) ∧ w' = w := by
  have hz : s.size = r.length + 1 := by rw [Lib.size_eq, h]; rfl
  have hzi : ((s.size : Int) == 0) = false := by rw [beq_eq_false_iff_ne, hz]; omega
  have k0 := fun w => idx_at s (b :: r) h 0 b rfl w
  simp only [Int.natCast_zero] at k0
  have HF : RowKit.Hid (signP (b :: r) = goS 65536 4 3 r (b.toNat - 240)) := Lib.hid (by rw [signP_cons]; rw [if_neg (by omega), if_neg (by omega), if_neg (by omega), if_pos (by omega)])
  have hx8 := b.toNat_lt
  obtain ⟨x, hx⟩ : ∃ x, b.toNat = x := ⟨_, rfl⟩
  rw [hx] at k0 HF h1 h2 hx8
  have d1 : decide ((x : Int) < 128) = false := decide_eq_false (by omega)
  have d2 : decide ((192 : Int) ≤ (x : Int)) = true := decide_eq_true (by omega)
  have d22 : decide ((x : Int) < 224) = false := decide_eq_false (by omega)
  have d3 : decide ((224 : Int) ≤ (x : Int)) = true := decide_eq_true (by omega)
  have d32 : decide ((x : Int) < 240) = false := decide_eq_false (by omega)
  have d4 : decide ((240 : Int) ≤ (x : Int)) = true := decide_eq_true (by omega)
  have d42 : decide ((x : Int) < 248) = true := decide_eq_true (by omega)
  obtain ⟨y0, hy0⟩ : ∃ y0, x - 240 = y0 := ⟨_, rfl⟩
  have e0 : (x : Int) - 240 = (y0 : Int) := by omega
  have HY : RowKit.Hid (y0 ≤ 1114174) := Lib.hid (by omega)
  rw [hy0] at HF
  obtain ⟨X, hX⟩ : ∃ X, signP (b :: r) = X := ⟨_, rfl⟩
  rw [hX] at HF ⊢
  obtain ⟨L, hL⟩ : ∃ L, b :: r = L := ⟨_, rfl⟩
  have HR : RowKit.Hid (L.drop 1 = r) := Lib.hid (by rw [← hL]; rfl)
  rw [hL] at h
  have hLn : s.size = L.length := by rw [Lib.size_eq, h]
  have HL := Lib.hid h
  have HLN := Lib.hid hLn
  clear h hz hLn h1 h2 hx hy0 hX hL
  go_enter Tryd.func18, Tryd.ntmps18
  go_wp2_with fail
  clear d1 d2 d22 d3 d32 d4 d42 hx8 e0 k0
  go_loopw [6, 8] (fun a c wr => ∃ y i : Nat, a = .int .i64 (y : Int) ∧ c = .int .i64 (i : Int) ∧ 1 ≤ i ∧ i ≤ 4 ∧ y ≤ 1114174 ∧ goS 65536 4 (4 - i) (L.drop i) y = X ∧ wr = w) (fun _ c _ => 4 - (intOf c).toNat)
  case atStart => exact ⟨y0, 1, rfl, rfl, by decide, by decide, HY.out, by rw [HR.out]; exact HF.out.symm, rfl⟩
  case round =>
    clear HF HY HR
    obtain ⟨y, i, rfl, rfl, hi1, hi2, hy, hk, hw⟩ := hrel
    have HK := Lib.hid hk
    have HW := Lib.hid hw
    clear hk hw
    by_cases hi4 : i = 4
    · subst hi4
      have hz := HK.out
      rw [Nat.sub_self, goS_zero] at hz
      have hex : exS 65536 y 0 ↔ (y < 65536 ∨ 1114111 < y ∨ (55296 ≤ y ∧ y ≤ 57343)) := by unfold exS; rw [pw0, Nat.mul_one, Nat.mul_one, Nat.add_sub_cancel]
      by_cases c1 : y < 65536
      · rw [if_pos (hex.2 (.inl c1))] at hz
        have HE := Lib.hid hz
        have d1 : decide ((y : Int) < 65536) = true := decide_eq_true (by omega)
        clear hex HK hz hi1 hi2 c1
        go_wp2_with fail
        go_ret2
        exact ⟨by rw [← HE.out]; rfl, HW.out⟩
      · have d1 : decide ((y : Int) < 65536) = false := decide_eq_false (by omega)
        by_cases c2 : 1114111 < y
        · rw [if_pos (hex.2 (.inr (.inl c2)))] at hz
          have HE := Lib.hid hz
          have d2 : decide ((1114111 : Int) < (y : Int)) = true := decide_eq_true (by omega)
          clear hex HK hz hi1 hi2 c1 c2
          go_wp2_with fail
          go_ret2
          exact ⟨by rw [← HE.out]; rfl, HW.out⟩
        · have d2 : decide ((1114111 : Int) < (y : Int)) = false := decide_eq_false (by omega)
          by_cases c3 : 55296 ≤ y
          · have d3 : decide ((55296 : Int) ≤ (y : Int)) = true := decide_eq_true (by omega)
            by_cases c4 : y ≤ 57343
            · rw [if_pos (hex.2 (.inr (.inr ⟨c3, c4⟩)))] at hz
              have HE := Lib.hid hz
              have d4 : decide ((y : Int) ≤ 57343) = true := decide_eq_true (by omega)
              clear hex HK hz hi1 hi2 c1 c2 c3 c4
              go_wp2_with fail
              go_ret2
              exact ⟨by rw [← HE.out]; rfl, HW.out⟩
            · rw [if_neg (fun h => by rcases hex.1 h with h | h | h <;> omega)] at hz
              have HE := Lib.hid hz
              have d4 : decide ((y : Int) ≤ 57343) = false := decide_eq_false (by omega)
              clear hex HK hz hi1 hi2 c1 c2 c3 c4
              go_wp2_with fail
              go_ret2
              exact ⟨by rw [← HE.out]; rfl, HW.out⟩
          · have d3 : decide ((55296 : Int) ≤ (y : Int)) = false := decide_eq_false (by omega)
            rw [if_neg (fun h => by rcases hex.1 h with h | h | h <;> omega)] at hz
            have HE := Lib.hid hz
            clear hex HK hz hi1 hi2 c1 c2 c3
            go_wp2_with fail
            go_ret2
            exact ⟨by rw [← HE.out]; rfl, HW.out⟩
    · have dl : decide ((i : Int) < 4) = true := decide_eq_true (by omega)
      obtain ⟨m, hm⟩ : ∃ m, 4 - i = m + 1 := ⟨4 - 1 - i, by omega⟩
      have hM : m + 1 + i = 4 := by omega
      rw [hm] at HK
      have HH := Lib.hid (And.intro hi1 hM)
      clear hm hi1 hi2 hi4 hM
      go_wp2_with fail
      go_loopw [9, 10, 11] (fun a c d wr2 => ∃ lo hi k j : Nat, a = .int .i64 (lo : Int) ∧ c = .int .i64 (hi : Int) ∧ d = .int .i64 (k : Int) ∧ k = i + j ∧ k ≤ 4 ∧ lo = y * pw j ∧ hi + 1 = (y + 1) * pw j ∧ wr2 = wr) (fun _ _ d _ => 4 - (intOf d).toNat)
      case atStart => exact ⟨y, y, i, 0, rfl, rfl, rfl, rfl, by have := HH.out.2; omega, by rw [pw0, Nat.mul_one], by rw [pw0, Nat.mul_one], rfl⟩
      case round =>
        obtain ⟨lo, hi, k, j, rfl, rfl, rfl, hkj, hkm, hlo, hhi, hw2⟩ := hrel
        have HW2 := Lib.hid (hw2.trans HW.out)
        have HW3 := Lib.hid hw2
        clear hw2
        by_cases hk4 : k = 4
        · have hjm : j = m + 1 := by have := HH.out.2; omega
          have hi1 := HH.out.1
          have hm2 : m + 1 ≤ 3 := by have := HH.out.2; omega
          have dk : decide ((k : Int) < 4) = false := decide_eq_false (by omega)
          have hex : exS 65536 y (m + 1) ↔ (hi < 65536 ∨ 1114111 < lo ∨ (55296 ≤ lo ∧ hi ≤ 57343)) := by unfold exS; rw [← hjm, ← hlo, ← hhi, Nat.add_sub_cancel]
          have hlo2 : y * 64 ≤ lo := by rw [hlo, hjm]; exact Nat.mul_le_mul_left y (pw_ge m)
          clear hlo hhi hkj hjm
          have HX := Lib.hid hex
          have HK2 := Lib.hid (fun h => goS_ex 65536 4 m y (L.drop i) h)
          rw [HK.out] at HK2
          by_cases hE : exS 65536 y (m + 1)
          · have HE := Lib.hid (HK2.out hE)
            have hor := hex.1 hE
            clear hex HX HK2 hE HK hm2 hi1 hlo2 hkm hy
            by_cases c1 : hi < 65536
            · have d1 : decide ((hi : Int) < 65536) = true := decide_eq_true (by omega)
              clear hor c1
              go_wp2_with fail
              go_ret2
              exact ⟨by rw [HE.out]; rfl, HW2.out⟩
            · have d1 : decide ((hi : Int) < 65536) = false := decide_eq_false (by omega)
              by_cases c2 : 1114111 < lo
              · have d2 : decide ((1114111 : Int) < (lo : Int)) = true := decide_eq_true (by omega)
                clear hor c1 c2
                go_wp2_with fail
                go_ret2
                exact ⟨by rw [HE.out]; rfl, HW2.out⟩
              · have d2 : decide ((1114111 : Int) < (lo : Int)) = false := decide_eq_false (by omega)
                have d3 : decide ((55296 : Int) ≤ (lo : Int)) = true := decide_eq_true (by omega)
                have d4 : decide ((hi : Int) ≤ 57343) = true := decide_eq_true (by omega)
                clear hor c1 c2
                go_wp2_with fail
                go_ret2
                exact ⟨by rw [HE.out]; rfl, HW2.out⟩
          · have hnor : ¬ (hi < 65536 ∨ 1114111 < lo ∨ (55296 ≤ lo ∧ hi ≤ 57343)) := fun h => hE (hex.2 h)
            have d1 : decide ((hi : Int) < 65536) = false := decide_eq_false (by omega)
            have d2 : decide ((1114111 : Int) < (lo : Int)) = false := decide_eq_false (by omega)
            have d34 : decide ((55296 : Int) ≤ (lo : Int)) = false ∨ (decide ((55296 : Int) ≤ (lo : Int)) = true ∧ decide ((hi : Int) ≤ 57343) = false) := by
              by_cases c3 : 55296 ≤ lo
              · exact .inr ⟨decide_eq_true (by omega), decide_eq_false (by omega)⟩
              · exact .inl (decide_eq_false (by omega))
            have hy2 : y * 64 ≤ 1114111 := by omega
            have HE := Lib.hid hE
            have HY := Lib.hid (And.intro hm2 hi1)
            clear hex HX HK2 hE hnor hlo2 hkm hy hm2 hi1
            by_cases hlt : i < L.length
            · obtain ⟨u, hu⟩ : ∃ u, L[i]? = some u := ⟨L[i], List.getElem?_eq_getElem hlt⟩
              have hd : L.drop i = u :: L.drop (i + 1) := by
                have := (List.getElem?_eq_some_iff.1 hu).2
                rw [List.drop_eq_getElem_cons hlt, this]
              have hkk := HK.out
              rw [hd, goS_cons, if_neg HE.out] at hkk
              have ki := fun w => idx_at s L HL.out i u hu w
              have hu8 := u.toNat_lt
              obtain ⟨v, hv⟩ : ∃ v, u.toNat = v := ⟨_, rfl⟩
              rw [hv] at hkk ki hu8
              have hn1 : s.size = L.length := HLN.out
              have d5 : decide ((s.size : Int) ≤ (i : Int)) = false := decide_eq_false (by omega)
              have d5n : decide (s.size ≤ i) = false := decide_eq_false (by omega)
              have d5l : decide (L.length ≤ i) = false := decide_eq_false (by omega)
              clear hn1 hd hu hv hlt
              by_cases c1 : v < 128
              · rw [if_pos (.inl c1)] at hkk
                have HKK := Lib.hid hkk
                have d6 : decide ((v : Int) < 128) = true := decide_eq_true (by omega)
                clear hkk c1
                rcases d34 with d3 | ⟨d3, d4⟩
                all_goals
                  go_wp2_with fail
                  go_ret2
                  exact ⟨by rw [← HKK.out]; rfl, HW2.out⟩
              · have d6 : decide ((v : Int) < 128) = false := decide_eq_false (by omega)
                by_cases c2 : 192 ≤ v
                · rw [if_pos (.inr c2)] at hkk
                  have HKK := Lib.hid hkk
                  have d7 : decide ((192 : Int) ≤ (v : Int)) = true := decide_eq_true (by omega)
                  clear hkk c1 c2
                  rcases d34 with d3 | ⟨d3, d4⟩
                  all_goals
                    go_wp2_with fail
                    go_ret2
                    exact ⟨by rw [← HKK.out]; rfl, HW2.out⟩
                · rw [if_neg (by omega)] at hkk
                  have d7 : decide ((192 : Int) ≤ (v : Int)) = false := decide_eq_false (by omega)
                  obtain ⟨y2, hy3⟩ : ∃ y2, y * 64 + v - 128 = y2 := ⟨_, rfl⟩
                  have e9 : (y : Int) * 64 + (v : Int) - 128 = (y2 : Int) := by omega
                  rw [hy3] at hkk
                  have HKK := Lib.hid (And.intro hkk (show y2 ≤ 1114174 by omega))
                  have hib : i ≤ 3 := by have := HH.out.2; omega
                  clear hkk c1 c2 hy3
                  rcases d34 with d3 | ⟨d3, d4⟩
                  all_goals
                    go_wp2_with fail
                    go_roundw
                    case rel => exact ⟨y2, i + 1, rfl, by simp, by omega, by have := HH.out.2; omega, HKK.out.2, by have h := HKK.out.1; rwa [show m = 4 - (i + 1) by have := HH.out.2; omega] at h, HW2.out⟩
                    case measure => have := HH.out.2; simp [intOf]; omega
            · have hkk := HK.out
              rw [List.drop_eq_nil_of_le (by omega), goS_nil, if_neg HE.out] at hkk
              have HKK := Lib.hid hkk
              have hn1 : s.size = L.length := HLN.out
              have d5 : decide ((s.size : Int) ≤ (i : Int)) = true := decide_eq_true (by omega)
              have d5n : decide (s.size ≤ i) = true := decide_eq_true (by omega)
              have d5l : decide (L.length ≤ i) = true := decide_eq_true (by omega)
              clear hn1 hkk hlt
              rcases d34 with d3 | ⟨d3, d4⟩
              all_goals
                go_wp2_with fail
                go_ret2
                exact ⟨by rw [← HKK.out]; rfl, HW2.out⟩
        · have hj2 : j ≤ 2 := by have h1 := HH.out.1; omega
          have dk : decide ((k : Int) < 4) = true := decide_eq_true (by omega)
          have hl1 : lo ≤ 1114174 * 4096 := by rw [hlo]; exact Nat.mul_le_mul hy (pw_le j hj2)
          have hh1 : hi + 1 ≤ 1114175 * 4096 := by rw [hhi]; exact Nat.mul_le_mul (by omega) (pw_le j hj2)
          have HNX : RowKit.Hid (lo * 64 = y * pw (j + 1) ∧ hi * 64 + 63 + 1 = (y + 1) * pw (j + 1)) := Lib.hid ⟨by rw [hlo, pw_succ j hj2, Nat.mul_assoc], by rw [pw_succ j hj2, ← Nat.mul_assoc, ← hhi]; omega⟩
          have HQ := Lib.hid (And.intro hkj (show k + 1 ≤ 4 by omega))
          have hkb : k ≤ 4 := by omega
          clear hlo hhi hj2 hkj hkm hk4 HK
          go_wp2_with fail
          go_roundw
          case rel => exact ⟨lo * 64, hi * 64 + 63, k + 1, j + 1, by simp, by simp, by simp, by rw [HQ.out.1]; rfl, HQ.out.2, HNX.out.1, HNX.out.2, HW3.out⟩
          case measure => have := HQ.out.2; simp [intOf]; omega
theorem sign_any (s : ByteArray) (l : List UInt8) (w : World) (h : s.data.toList = l) : Calls Tryd.prog 18 #[.string s] w fun e w' => e = .returned (sigR (signP l)) ∧ w' = w := by
  match l, h with
  | [], h => exact sign_nil s w h
  | b :: r, h =>
    by_cases c1 : b.toNat < 128
    · exact sign_low s w b r h c1
    · by_cases c2 : b.toNat < 192
      · exact sign_mid s w b r h (by omega) c2
      · by_cases c3 : b.toNat < 224
        · exact sign_two s w b r h (by omega) c3
        · by_cases c4 : b.toNat < 240
          · exact sign_three s w b r h (by omega) c4
          · by_cases c5 : b.toNat < 248
            · exact sign_four s w b r h (by omega) c5
            · exact sign_high s w b r h (by omega)
end Go.Proofs.YtanmkddmebhdpaaDoor
