/- Contracts of numbered, escape. -/
import Derived.Test.YtanmkddmebhdpaaDoorUtv
namespace Go.Proofs.YtanmkddmebhdpaaDoor
set_option maxRecDepth 20000
open Go.RowKit Go.Lib

theorem wrap32_in (z : Int) (h1 : -2147483648 ≤ z) (h2 : z < 2147483648) : wrap32 z = z := by unfold wrap32; omega
theorem pair_arith (n y : Nat) (h1 : 55296 ≤ n) (h2 : n < 56320) (h3 : 56320 ≤ y) (h4 : y ≤ 57343) : ∃ p q r z : Nat, (n : Int) - 55296 = (p : Int) ∧ (65536 : Int) + (p : Int) * 1024 = (r : Int) ∧ (y : Int) - 56320 = (q : Int) ∧ (r : Int) + (q : Int) = (z : Int) ∧ 65536 + (n - 55296) * 1024 + (y - 56320) = z ∧ p < 1024 ∧ q < 1024 ∧ r < 1200000 ∧ z < 1200000 :=
  ⟨n - 55296, y - 56320, 65536 + (n - 55296) * 1024, 65536 + (n - 55296) * 1024 + (y - 56320), by omega, by omega, by omega, by omega, rfl, by omega, by omega, by omega, by omega⟩
theorem wrap_nat (z : Nat) (h : z < 1200000) : wrap32 (z : Int) = (z : Int) := wrap32_in _ (by omega) (by omega)
theorem wrap_mul (p : Nat) (h : p < 1024) : wrap32 ((p : Int) * 1024) = (p : Int) * 1024 := wrap32_in _ (by omega) (by omega)
theorem halfF_bound {l : List UInt8} {x : Nat} (h : halfF l = .ok x) : 56320 ≤ x ∧ x ≤ 57343 := by
  match l with
  | [] => cases h
  | a :: l1 =>
    have e1 : halfF (a :: l1) = if a ≠ 92 then .error 9 else halfG l1 := rfl
    rw [e1] at h
    split at h
    · cases h
    · match l1 with
      | [] => cases h
      | b :: l2 =>
        have e2 : halfG (b :: l2) = if b ≠ 117 then .error 9 else halfH l2 := rfl
        rw [e2] at h
        split at h
        · cases h
        · unfold halfH at h
          split at h
          · cases h
          · split at h
            · rename_i h1
              injection h with h
              subst h
              exact h1
            · cases h
set_option maxHeartbeats 4000000 in
theorem numbered_any (s : ByteArray) (a b : UInt8) (l : List UInt8) (w : World) (h : s.data.toList = a :: b :: l) :
    Calls Tryd.prog 33 #[.string s] w (XR w (numberedF l) fun p => .tuple #[.int .i32 (p.1 : Int), .int .i64 (p.2 : Int)]) := by
  have hsz0 : s.size = l.length + 2 := by rw [Lib.size_eq, h]; rfl
  obtain ⟨m, hm⟩ : ∃ m, l.length + 2 = m := ⟨_, rfl⟩
  have hsz : s.size = m := hsz0.trans hm
  have HN := Lib.hid (fun w => number_any (s.extract 2 m) l 2 w (by rw [← hsz, ext_from, h]; rfl))
  have HH := Lib.hid (fun w => half_any (s.extract 6 m) (l.drop 4) w (by rw [← hsz, ext_from, h]; rfl))
  have M9 := Lib.hid (fun w => must_ok 9 ⟨#[]⟩ w)
  have N9 := Lib.hid (fun w => must_no 9 ⟨#[]⟩ w)
  have hl2 : (2 : Int) ≤ (m : Int) := by omega
  have hl3 : 2 ≤ m := by omega
  clear h hsz0
  unfold numberedF
  cases hn : numF 2 4 l 0 with
  | error k =>
    rw [hn] at HN
    dsimp only
    clear hn hm
    go_enter Tryd.func33, Tryd.ntmps33
    go_wp2_with fail
    refine (HN.out _).mono ?_
    rintro e w2 (⟨k2, hk2, q, rfl, hq⟩ | ⟨x, hx, _⟩)
    · injection hk2 with hk2
      subst hk2
      exact ⟨rfl, .inl ⟨k, rfl, q, rfl, hq⟩⟩
    · cases hx
  | ok n =>
    rw [hn] at HN
    dsimp only
    obtain ⟨hl4, hnb⟩ := numF_ok hn
    by_cases hg : 56320 ≤ n ∧ n ≤ 57343
    · rw [if_pos hg]
      have D0 : decide ((n : Int) < 56320) = false := decide_eq_false (by omega)
      have D1 : decide (57343 < (n : Int)) = false := decide_eq_false (by omega)
      clear hn hm hg hl4 hnb
      go_enter Tryd.func33, Tryd.ntmps33
      go_wp2_with fail
      refine (HN.out _).mono ?_
      rintro e w2 (⟨k2, hk2, _⟩ | ⟨x, hx, rfl, rfl⟩)
      · cases hk2
      injection hx with hx
      subst hx
      go_wp2_with fail
      refine (N9.out _).mono ?_
      rintro e w2 ⟨q, rfl, hq⟩
      exact ⟨rfl, .inl ⟨9, rfl, q, rfl, hq⟩⟩
    · rw [if_neg hg]
      by_cases h1 : n < 55296 ∨ 57343 < n
      · rw [if_pos h1]
        by_cases h2 : n < 55296
        · skip
          have D0 : decide ((n : Int) < 56320) = true := decide_eq_true (by omega)
          have D1 : decide ((n : Int) < 55296) = true := decide_eq_true (by omega)
          clear hn hm hg hl4 hnb h1 h2
          go_enter Tryd.func33, Tryd.ntmps33
          go_wp2_with fail
          refine (HN.out _).mono ?_
          rintro e w2 (⟨k2, hk2, _⟩ | ⟨x, hx, rfl, rfl⟩)
          · cases hk2
          injection hx with hx
          subst hx
          go_wp2_with fail
          refine (M9.out _).mono ?_
          rintro e wz ⟨rfl, rfl⟩
          go_wp2_with fail
          go_ret2
          exact .inr ⟨_, rfl, rfl, rfl⟩
        · skip
          have D0 : decide ((n : Int) < 56320) = false := decide_eq_false (by omega)
          have D1 : decide ((n : Int) < 55296) = false := decide_eq_false (by omega)
          have D2 : decide (57343 < (n : Int)) = true := decide_eq_true (by omega)
          clear hn hm hg hl4 hnb h1 h2
          go_enter Tryd.func33, Tryd.ntmps33
          go_wp2_with fail
          refine (HN.out _).mono ?_
          rintro e w2 (⟨k2, hk2, _⟩ | ⟨x, hx, rfl, rfl⟩)
          · cases hk2
          injection hx with hx
          subst hx
          go_wp2_with fail
          refine (M9.out _).mono ?_
          rintro e wz ⟨rfl, rfl⟩
          go_wp2_with fail
          go_ret2
          exact .inr ⟨_, rfl, rfl, rfl⟩
      · rw [if_neg h1]
        have hl6 : (6 : Int) ≤ (m : Int) := by omega
        have hl7 : 6 ≤ m := by omega
        cases hh : halfF (l.drop 4) with
        | error k =>
          rw [hh] at HH
          dsimp only
          have D0 : decide ((n : Int) < 56320) = true := decide_eq_true (by omega)
          have D1 : decide ((n : Int) < 55296) = false := decide_eq_false (by omega)
          have D2 : decide (57343 < (n : Int)) = false := decide_eq_false (by omega)
          clear hn hm hg hl4 hnb h1 hh
          go_enter Tryd.func33, Tryd.ntmps33
          go_wp2_with fail
          refine (HN.out _).mono ?_
          rintro e w2 (⟨k2, hk2, _⟩ | ⟨x, hx, rfl, rfl⟩)
          · cases hk2
          injection hx with hx
          subst hx
          go_wp2_with fail
          refine (M9.out _).mono ?_
          rintro e wz ⟨rfl, rfl⟩
          go_wp2_with fail
          refine (HH.out _).mono ?_
          rintro e w2 (⟨k2, hk2, q, rfl, hq⟩ | ⟨x, hx, _⟩)
          · injection hk2 with hk2
            subst hk2
            exact ⟨rfl, .inl ⟨k, rfl, q, rfl, hq⟩⟩
          · cases hx
        | ok y =>
          rw [hh] at HH
          dsimp only
          obtain ⟨y1, y2⟩ := halfF_bound hh
          have D0 : decide ((n : Int) < 56320) = true := decide_eq_true (by omega)
          have D1 : decide ((n : Int) < 55296) = false := decide_eq_false (by omega)
          have D2 : decide (57343 < (n : Int)) = false := decide_eq_false (by omega)
          have HY : RowKit.Hid (55296 ≤ n ∧ n < 56320 ∧ 56320 ≤ y ∧ y ≤ 57343) := Lib.hid (by omega)
          clear hn hm hg hl4 hnb h1 hh y1 y2
          go_enter Tryd.func33, Tryd.ntmps33
          go_wp2_with fail
          refine (HN.out _).mono ?_
          rintro e w2 (⟨k2, hk2, _⟩ | ⟨x, hx, rfl, rfl⟩)
          · cases hk2
          injection hx with hx
          subst hx
          go_wp2_with fail
          refine (M9.out _).mono ?_
          rintro e wz ⟨rfl, rfl⟩
          go_wp2_with fail
          refine (HH.out _).mono ?_
          rintro e w2 (⟨k2, hk2, _⟩ | ⟨x, hx, rfl, rfl⟩)
          · cases hk2
          injection hx with hx
          subst hx
          obtain ⟨p, q, r, z, e1, e2, e3, e4, e0, p1, q1, r1, z1⟩ := pair_arith n y HY.out.1 HY.out.2.1 HY.out.2.2.1 HY.out.2.2.2
          have HE0 := Lib.hid e0
          clear e0 HY hl2 hl3 hl6 hl7 D0 D1 D2 hsz
          go_wp2_with fail
          go_ret2
          refine .inr ⟨_, rfl, ?_, rfl⟩
          dsimp only
          rw [HE0.out]
          rfl
end Go.Proofs.YtanmkddmebhdpaaDoor
