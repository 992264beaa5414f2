/- Contracts of half, numbered, escape. -/
import Derived.Test.YtanmkddmebhdpaaDoorUtu
namespace Go.Proofs.YtanmkddmebhdpaaDoor
set_option maxRecDepth 20000
open Go.RowKit Go.Lib

theorem numF_bound (bad : Nat) : ∀ (k : Nat) (l : List UInt8) (x n : Nat), numF bad k l x = .ok n → k ≤ l.length ∧ x * 16 ^ k ≤ n ∧ n < (x + 1) * 16 ^ k
  | 0, l, x, n, h => by
    unfold numF at h
    injection h with h
    subst h
    simp
  | k + 1, [], x, n, h => by cases h
  | k + 1, u :: l, x, n, h => by
    have h0 : numF bad (k + 1) (u :: l) x = match valF u with | none => .error bad | some v => numF bad k l (x * 16 + v) := rfl
    rw [h0] at h
    cases hv : valF u with
    | none => rw [hv] at h; cases h
    | some v =>
      rw [hv] at h
      have h1 := numF_bound bad k l (x * 16 + v) n h
      have h2 := (figZ_some u v hv).2
      refine ⟨by simp; omega, ?_, ?_⟩
      · have : x * 16 ^ (k + 1) ≤ (x * 16 + v) * 16 ^ k := by rw [Nat.pow_succ, ← Nat.mul_assoc, Nat.mul_right_comm]; exact Nat.mul_le_mul_right _ (by omega)
        omega
      · have : (x * 16 + v + 1) * 16 ^ k ≤ (x + 1) * 16 ^ (k + 1) := by rw [Nat.pow_succ, ← Nat.mul_assoc, Nat.mul_right_comm]; exact Nat.mul_le_mul_right _ (by omega)
        omega
theorem numF_ok {bad : Nat} {l : List UInt8} {n : Nat} (h : numF bad 4 l 0 = .ok n) : 4 ≤ l.length ∧ n < 65536 := by
  have := numF_bound bad 4 l 0 n h
  omega
set_option maxHeartbeats 4000000 in
theorem half_any (s : ByteArray) (l : List UInt8) (w : World) (h : s.data.toList = l) :
    Calls Tryd.prog 41 #[.string s] w (XR w (halfF l) fun n => .int .i32 (n : Int)) := by
  have hsz0 : s.size = l.length := by rw [Lib.size_eq, h]
  obtain ⟨m, hm⟩ : ∃ m, l.length = m := ⟨_, rfl⟩
  have hsz : s.size = m := hsz0.trans hm
  have HN := Lib.hid (fun w => number_any (s.extract 2 m) (l.drop 2) 9 w (by rw [← hsz, ext_from, h]))
  have kx := fun j u hj w => idx_at s l h j u hj w
  have M10 := Lib.hid (fun w => must_ok 10 ⟨#[]⟩ w)
  have M9 := Lib.hid (fun w => must_ok 9 ⟨#[]⟩ w)
  have N10 := Lib.hid (fun w => must_no 10 ⟨#[]⟩ w)
  have N9 := Lib.hid (fun w => must_no 9 ⟨#[]⟩ w)
  clear h hsz0
  match l with
  | [] =>
    have HE : RowKit.Hid (halfF [] = .error 10) := Lib.hid rfl
    rw [HE.out]
    rw [List.length_nil] at hm
    have d0 : decide (0 < m) = false := decide_eq_false (by omega)
    have g0 : decide ((0 : Int) < (m : Int)) = false := decide_eq_false (by omega)
    clear kx hm
    go_enter Tryd.func41, Tryd.ntmps41
    go_wp2_with fail
    refine (N10.out _).mono ?_
    rintro e w2 ⟨q, rfl, hq⟩
    exact ⟨rfl, .inl ⟨10, rfl, q, rfl, hq⟩⟩
  | a :: l1 =>
    have k0 : ∀ w, (Instr.index 9 (.string s) (.int .i64 0)).run Tryd.prog w = .ok (.int .u8 (a.toNat : Int)) w := kx 0 a rfl
    have HE : RowKit.Hid (halfF (a :: l1) = if a ≠ 92 then .error 9 else halfG l1) := Lib.hid rfl
    rw [HE.out]
    rw [List.length_cons] at hm
    have d0 : decide (0 < m) = true := decide_eq_true (by omega)
    have g0 : decide ((0 : Int) < (m : Int)) = true := decide_eq_true (by omega)
    by_cases ha : a ≠ 92
    · rw [if_pos ha]
      have hz : ((a.toNat : Int) == 92) = false := by
        rw [beq_eq_false_iff_ne]
        intro e
        exact ha (UInt8.toNat_inj.1 (by show a.toNat = 92; omega))
      clear kx ha hm
      go_enter Tryd.func41, Tryd.ntmps41
      go_wp2_with fail
      refine (M10.out _).mono ?_
      rintro e wz ⟨rfl, rfl⟩
      go_wp2_with fail
      refine (N9.out _).mono ?_
      rintro e w2 ⟨q, rfl, hq⟩
      exact ⟨rfl, .inl ⟨9, rfl, q, rfl, hq⟩⟩
    · rw [if_neg ha]
      have ha : a = 92 := Decidable.not_not.1 ha
      subst ha
      rw [show (((92 : UInt8).toNat : Nat) : Int) = 92 from rfl] at k0
      match l1 with
      | [] =>
        have HE : RowKit.Hid (halfG [] = .error 10) := Lib.hid rfl
        rw [HE.out]
        rw [List.length_nil] at hm
        have d1 : decide (1 < m) = false := decide_eq_false (by omega)
        have g1 : decide ((1 : Int) < (m : Int)) = false := decide_eq_false (by omega)
        clear kx hm
        go_enter Tryd.func41, Tryd.ntmps41
        go_wp2_with fail
        refine (M10.out _).mono ?_
        rintro e wz ⟨rfl, rfl⟩
        go_wp2_with fail
        refine (M9.out _).mono ?_
        rintro e wz ⟨rfl, rfl⟩
        go_wp2_with fail
        refine (N10.out _).mono ?_
        rintro e w2 ⟨q, rfl, hq⟩
        exact ⟨rfl, .inl ⟨10, rfl, q, rfl, hq⟩⟩
      | b :: l2 =>
        have k1 : ∀ w, (Instr.index 9 (.string s) (.int .i64 1)).run Tryd.prog w = .ok (.int .u8 (b.toNat : Int)) w := kx 1 b rfl
        have HE : RowKit.Hid (halfG (b :: l2) = if b ≠ 117 then .error 9 else halfH l2) := Lib.hid rfl
        rw [HE.out]
        rw [List.length_cons] at hm
        have d1 : decide (1 < m) = true := decide_eq_true (by omega)
        have g1 : decide ((1 : Int) < (m : Int)) = true := decide_eq_true (by omega)
        rw [show ((92 : UInt8) :: b :: l2).drop 2 = l2 from rfl] at HN
        by_cases hb : b ≠ 117
        · rw [if_pos hb]
          have hz : ((b.toNat : Int) == 117) = false := by
            rw [beq_eq_false_iff_ne]
            intro e
            exact hb (UInt8.toNat_inj.1 (by show b.toNat = 117; omega))
          clear kx hb hm
          go_enter Tryd.func41, Tryd.ntmps41
          go_wp2_with fail
          refine (M10.out _).mono ?_
          rintro e wz ⟨rfl, rfl⟩
          go_wp2_with fail
          refine (M9.out _).mono ?_
          rintro e wz ⟨rfl, rfl⟩
          go_wp2_with fail
          refine (M10.out _).mono ?_
          rintro e wz ⟨rfl, rfl⟩
          go_wp2_with fail
          refine (N9.out _).mono ?_
          rintro e w2 ⟨q, rfl, hq⟩
          exact ⟨rfl, .inl ⟨9, rfl, q, rfl, hq⟩⟩
        · rw [if_neg hb]
          have hb : b = 117 := Decidable.not_not.1 hb
          subst hb
          rw [show (((117 : UInt8).toNat : Nat) : Int) = 117 from rfl] at k1
          have hl2 : (2 : Int) ≤ (m : Int) := by omega
          have hl3 : 2 ≤ m := by omega
          unfold halfH
          cases hn : numF 9 4 l2 0 with
          | error k =>
            rw [hn] at HN
            dsimp only
            clear kx hn hm
            go_enter Tryd.func41, Tryd.ntmps41
            go_wp2_with fail
            refine (M10.out _).mono ?_
            rintro e wz ⟨rfl, rfl⟩
            go_wp2_with fail
            refine (M9.out _).mono ?_
            rintro e wz ⟨rfl, rfl⟩
            go_wp2_with fail
            refine (M10.out _).mono ?_
            rintro e wz ⟨rfl, rfl⟩
            go_wp2_with fail
            refine (M9.out _).mono ?_
            rintro e wz ⟨rfl, rfl⟩
            go_wp2_with fail
            refine (HN.out _).mono ?_
            rintro e w2 (⟨k2, hk2, q, rfl, hq⟩ | ⟨x, hx, _⟩)
            · injection hk2 with hk2
              subst hk2
              exact ⟨rfl, .inl ⟨k, rfl, q, rfl, hq⟩⟩
            · cases hx
          | ok n =>
            rw [hn] at HN
            dsimp only
            obtain ⟨_, hnb⟩ := numF_ok hn
            by_cases hg : 56320 ≤ n ∧ n ≤ 57343
            · rw [if_pos hg]
              have d5 : decide ((56320 : Int) ≤ (n : Int)) = true := decide_eq_true (by omega)
              have d6 : decide ((n : Int) ≤ 57343) = true := decide_eq_true (by omega)
              clear kx hn hm hg hnb
              go_enter Tryd.func41, Tryd.ntmps41
              go_wp2_with fail
              refine (M10.out _).mono ?_
              rintro e wz ⟨rfl, rfl⟩
              go_wp2_with fail
              refine (M9.out _).mono ?_
              rintro e wz ⟨rfl, rfl⟩
              go_wp2_with fail
              refine (M10.out _).mono ?_
              rintro e wz ⟨rfl, rfl⟩
              go_wp2_with fail
              refine (M9.out _).mono ?_
              rintro e wz ⟨rfl, rfl⟩
              go_wp2_with fail
              refine (HN.out _).mono ?_
              rintro e w2 (⟨k2, hk2, _⟩ | ⟨x, hx, rfl, rfl⟩)
              · cases hk2
              · injection hx with hx
                subst hx
                go_wp2_with fail
                refine (M9.out _).mono ?_
                rintro e wz ⟨rfl, rfl⟩
                go_wp2_with fail
                go_ret
                exact .inr ⟨n, rfl, rfl, rfl⟩
            · rw [if_neg hg]
              obtain ⟨b1, hb1⟩ : ∃ b1, decide ((56320 : Int) ≤ (n : Int)) = b1 := ⟨_, rfl⟩
              obtain ⟨b2, hb2⟩ : ∃ b2, decide ((n : Int) ≤ 57343) = b2 := ⟨_, rfl⟩
              have hbb : b1 = false ∨ (b1 = true ∧ b2 = false) := by
                cases b1
                · exact .inl rfl
                · have := of_decide_eq_true hb1
                  exact .inr ⟨rfl, by rw [← hb2]; exact decide_eq_false (by omega)⟩
              clear kx hn hm hg hnb
              rcases hbb with rfl | ⟨rfl, rfl⟩
              all_goals
                go_enter Tryd.func41, Tryd.ntmps41
                go_wp2_with fail
                refine (M10.out _).mono ?_
                rintro e wz ⟨rfl, rfl⟩
                go_wp2_with fail
                refine (M9.out _).mono ?_
                rintro e wz ⟨rfl, rfl⟩
                go_wp2_with fail
                refine (M10.out _).mono ?_
                rintro e wz ⟨rfl, rfl⟩
                go_wp2_with fail
                refine (M9.out _).mono ?_
                rintro e wz ⟨rfl, rfl⟩
                go_wp2_with fail
                refine (HN.out _).mono ?_
                rintro e w2 (⟨k2, hk2, _⟩ | ⟨x, hx, rfl, rfl⟩)
                · cases hk2
                · injection hx with hx
                  subst hx
                  go_wp2_with fail
                  refine (N9.out _).mono ?_
                  rintro e w2 ⟨q, rfl, hq⟩
                  exact ⟨rfl, .inl ⟨9, rfl, q, rfl, hq⟩⟩
end Go.Proofs.YtanmkddmebhdpaaDoor
