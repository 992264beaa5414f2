/- Contracts of figure, number, half, numbered, escape. -/
import Derived.Test.YtanmkddmebhdpaaDoorUtn
import Derived.Test.YtanmkddmebhdpaaDoorUtb
import Derived.Test.YtanmkddmebhdpaaDoorGrd
namespace Go.Proofs.YtanmkddmebhdpaaDoor
set_option maxRecDepth 20000
open Go.RowKit Go.Lib

/-- A fault with this code is thrown; what was there stands. -/
def ThrownU (w : World) (k : Nat) (e : Ending) (w' : World) : Prop := ∃ q, e = .panicked (flt ⟨q, 0, none⟩) ∧ w'.cell? ⟨q, 0, none⟩ = some (.int .i64 (k : Int)) ∧ Below w.heap.size w w' ∧ w.heap.size ≤ q ∧ q < w'.heap.size
/-- What is thrown, or what is returned, as the plain part says. -/
def XR {α : Type} (w : World) (r : Except Nat α) (val : α → Value) (e : Ending) (w' : World) : Prop :=
  (∃ k, r = .error k ∧ ThrownU w k e w') ∨ (∃ x, r = .ok x ∧ e = .returned (val x) ∧ w' = w)
set_option maxHeartbeats 400000 in
theorem must_ok (k : Int) (s : ByteArray) (w : World) : Calls Tryd.prog 24 #[.bool true, .int .i64 k, .string s] w fun e w' => e = .returned (.tuple #[]) ∧ w' = w := by
  go_enter Tryd.func24, Tryd.ntmps24
  go_wp2_with fail
  go_end0
  exact ⟨rfl, rfl⟩
set_option maxHeartbeats 400000 in
theorem throw_u (k : Nat) (s : ByteArray) (w : World) : Calls Tryd.prog 28 #[.int .i64 (k : Int), .string s] w (ThrownU w k) := by
  refine (throw_any (k : Int) s w).mono ?_
  rintro e w1 ⟨rfl, rfl⟩
  exact ⟨w.heap.size, rfl, by have h := heap_alloc_new w (.cells #[.int .i64 (k : Int), .string s] 58); simp only [World.cell?, h]; rfl, below_make (World.grownBy_alloc w _ none), Nat.le_refl _, by simp⟩
set_option maxHeartbeats 400000 in
theorem must_no (k : Nat) (s : ByteArray) (w : World) : Calls Tryd.prog 24 #[.bool false, .int .i64 (k : Int), .string s] w (ThrownU w k) := by
  have HT := Lib.hid (throw_u k s w)
  go_enter Tryd.func24, Tryd.ntmps24
  go_wp2_with fail
  refine HT.out.mono ?_
  rintro e w1 ⟨q, rfl, h⟩
  exact ⟨rfl, q, rfl, h⟩
def figZ (u : UInt8) : Int := match valF u with
  | some v => (v : Int)
  | none => -1
theorem figZ_at (u : UInt8) : figZ u = if 48 ≤ u.toNat ∧ u.toNat ≤ 57 then (u.toNat : Int) - 48 else if 97 ≤ u.toNat ∧ u.toNat ≤ 102 then (u.toNat : Int) - 87 else if 65 ≤ u.toNat ∧ u.toNat ≤ 70 then (u.toNat : Int) - 55 else -1 := by
  have key : ∀ x : Fin 256, figZ (nb x.val) = if 48 ≤ (nb x.val).toNat ∧ (nb x.val).toNat ≤ 57 then ((nb x.val).toNat : Int) - 48 else if 97 ≤ (nb x.val).toNat ∧ (nb x.val).toNat ≤ 102 then ((nb x.val).toNat : Int) - 87 else if 65 ≤ (nb x.val).toNat ∧ (nb x.val).toNat ≤ 70 then ((nb x.val).toNat : Int) - 55 else -1 := by decide +kernel
  have := key ⟨u.toNat, u.toNat_lt⟩
  rwa [nb_of] at this
set_option maxHeartbeats 4000000 in
theorem figure_any (u : UInt8) (w : World) : Calls Tryd.prog 46 #[.int .u8 (u.toNat : Int)] w fun e w' => e = .returned (.int .i32 (figZ u)) ∧ w' = w := by
  have hu := u.toNat_lt
  have HF := Lib.hid (figZ_at u)
  obtain ⟨x, hx⟩ : ∃ x, u.toNat = x := ⟨_, rfl⟩
  rw [hx] at HF hu
  rw [HF.out, hx]
  clear HF hx
  have e1 : (x : Int) % 256 = (x : Int) := by omega
  by_cases h1 : 48 ≤ x ∧ x ≤ 57
  · rw [if_pos h1]
    have d0 : decide ((48 : Int) ≤ (x : Int)) = true := decide_eq_true (by omega)
    have d1 : decide ((x : Int) ≤ 57) = true := decide_eq_true (by omega)
    have e2 : ((x : Int) - 48) % 256 = (x : Int) - 48 := by omega
    clear h1
    go_enter Tryd.func46, Tryd.ntmps46
    go_wp2_with fail
    go_ret
    exact ⟨rfl, rfl⟩
  · rw [if_neg h1]
    by_cases h2 : 97 ≤ x ∧ x ≤ 102
    · rw [if_pos h2]
      have d0 : decide ((48 : Int) ≤ (x : Int)) = true := decide_eq_true (by omega)
      have d1 : decide ((x : Int) ≤ 57) = false := decide_eq_false (by omega)
      have d2 : decide ((97 : Int) ≤ (x : Int)) = true := decide_eq_true (by omega)
      have d3 : decide ((x : Int) ≤ 102) = true := decide_eq_true (by omega)
      have e2 : ((x : Int) - 97) % 256 = (x : Int) - 97 := by omega
      have e3 : (x : Int) - 97 + 10 = (x : Int) - 87 := by omega
      have e4 : wrap32 ((x : Int) - 87) = (x : Int) - 87 := by unfold wrap32; omega
      clear h1 h2
      go_enter Tryd.func46, Tryd.ntmps46
      go_wp2_with fail
      go_ret
      exact ⟨rfl, rfl⟩
    · rw [if_neg h2]
      by_cases h3 : 65 ≤ x ∧ x ≤ 70
      · rw [if_pos h3]
        have d0 : decide ((48 : Int) ≤ (x : Int)) = true := decide_eq_true (by omega)
        have d1 : decide ((x : Int) ≤ 57) = false := decide_eq_false (by omega)
        have d2 : decide ((97 : Int) ≤ (x : Int)) = false := decide_eq_false (by omega)
        have d3 : decide ((65 : Int) ≤ (x : Int)) = true := decide_eq_true (by omega)
        have d4 : decide ((x : Int) ≤ 70) = true := decide_eq_true (by omega)
        have e2 : ((x : Int) - 65) % 256 = (x : Int) - 65 := by omega
        have e3 : (x : Int) - 65 + 10 = (x : Int) - 55 := by omega
        have e4 : wrap32 ((x : Int) - 55) = (x : Int) - 55 := by unfold wrap32; omega
        clear h1 h2 h3
        go_enter Tryd.func46, Tryd.ntmps46
        go_wp2_with fail
        go_ret
        exact ⟨rfl, rfl⟩
      · rw [if_neg h3]
        by_cases g1 : x < 48
        · skip
          have d0 : decide ((48 : Int) ≤ (x : Int)) = false := decide_eq_false (by omega)
          have d1 : decide ((97 : Int) ≤ (x : Int)) = false := decide_eq_false (by omega)
          have d2 : decide ((65 : Int) ≤ (x : Int)) = false := decide_eq_false (by omega)
          clear h1 h2 h3 g1
          go_enter Tryd.func46, Tryd.ntmps46
          go_wp2_with fail
          go_ret
          exact ⟨rfl, rfl⟩
        · by_cases g2 : x < 65
          · skip
            have d0 : decide ((48 : Int) ≤ (x : Int)) = true := decide_eq_true (by omega)
            have d1 : decide ((x : Int) ≤ 57) = false := decide_eq_false (by omega)
            have d2 : decide ((97 : Int) ≤ (x : Int)) = false := decide_eq_false (by omega)
            have d3 : decide ((65 : Int) ≤ (x : Int)) = false := decide_eq_false (by omega)
            clear h1 h2 h3 g1 g2
            go_enter Tryd.func46, Tryd.ntmps46
            go_wp2_with fail
            go_ret
            exact ⟨rfl, rfl⟩
          · by_cases g3 : x < 97
            · skip
              have d0 : decide ((48 : Int) ≤ (x : Int)) = true := decide_eq_true (by omega)
              have d1 : decide ((x : Int) ≤ 57) = false := decide_eq_false (by omega)
              have d2 : decide ((97 : Int) ≤ (x : Int)) = false := decide_eq_false (by omega)
              have d3 : decide ((65 : Int) ≤ (x : Int)) = true := decide_eq_true (by omega)
              have d4 : decide ((x : Int) ≤ 70) = false := decide_eq_false (by omega)
              clear h1 h2 h3 g1 g2 g3
              go_enter Tryd.func46, Tryd.ntmps46
              go_wp2_with fail
              go_ret
              exact ⟨rfl, rfl⟩
            · skip
              have d0 : decide ((48 : Int) ≤ (x : Int)) = true := decide_eq_true (by omega)
              have d1 : decide ((x : Int) ≤ 57) = false := decide_eq_false (by omega)
              have d2 : decide ((97 : Int) ≤ (x : Int)) = true := decide_eq_true (by omega)
              have d3 : decide ((x : Int) ≤ 102) = false := decide_eq_false (by omega)
              have d4 : decide ((65 : Int) ≤ (x : Int)) = true := decide_eq_true (by omega)
              have d5 : decide ((x : Int) ≤ 70) = false := decide_eq_false (by omega)
              clear h1 h2 h3 g1 g2 g3
              go_enter Tryd.func46, Tryd.ntmps46
              go_wp2_with fail
              go_ret
              exact ⟨rfl, rfl⟩
theorem figZ_some (u : UInt8) (v : Nat) (h : valF u = some v) : figZ u = (v : Int) ∧ v < 16 := by
  have key : ∀ x : Fin 256, ∀ v, valF (nb x.val) = some v → v < 16 := by
    intro x v hv
    unfold valF at hv
    repeat' split at hv
    all_goals first | (injection hv with hv; omega) | cases hv
  have := key ⟨u.toNat, u.toNat_lt⟩ v (by rw [nb_of]; exact h)
  exact ⟨by unfold figZ; rw [h], this⟩
theorem figZ_none (u : UInt8) (h : valF u = none) : figZ u = -1 := by unfold figZ; rw [h]
theorem idx_at (s : ByteArray) (l : List UInt8) (h : s.data.toList = l) (j : Nat) (u : UInt8) (hj : l[j]? = some u) (w : World) : (Instr.index 9 (.string s) (.int .i64 (j : Int))).run Tryd.prog w = .ok (.int .u8 (u.toNat : Int)) w := by
  have hl : j < l.length := (List.getElem?_eq_some_iff.1 hj).1
  have hsz : s.size = l.length := by rw [Lib.size_eq, h]
  rw [run_index_string (P := Tryd.prog) w 9 s .i64 (j : Int) Tryd.underlying9, dif_pos ⟨by omega, by rw [hsz]; omega⟩]
  simp only [Int.toNat_natCast]
  have : s[j]'(by omega) = u := by
    subst h
    have h2 := (List.getElem?_eq_some_iff.1 hj).2
    have h3 : s.data[j]'(by simpa using hl) = u := by simpa using h2
    exact h3
  rw [this]
set_option maxHeartbeats 4000000 in
theorem number_any (s : ByteArray) (l : List UInt8) (bad : Nat) (w : World) (h : s.data.toList = l) :
    Calls Tryd.prog 40 #[.string s, .int .i64 (bad : Int)] w (XR w (numF bad 4 l 0) fun n => .int .i32 (n : Int)) := by
  obtain ⟨X, hX⟩ : ∃ X, numF bad 4 l 0 = X := ⟨_, rfl⟩
  rw [hX]
  have HS := Lib.hid h
  have hsz : s.size = l.length := by rw [Lib.size_eq, h]
  have HX := Lib.hid hX
  clear h hX
  go_enter Tryd.func40, Tryd.ntmps40
  go_wp2_with fail
  go_loopw [5, 8] (fun x i wr => ∃ k v : Nat, x = .int .i32 (v : Int) ∧ i = .int .i64 (k : Int) ∧ k ≤ 4 ∧ k ≤ l.length ∧ v < 16 ^ k ∧ numF bad (4 - k) (l.drop k) v = X ∧ wr = w) (fun _ i _ => 4 - (intOf i).toNat)
  case atStart => exact ⟨0, 0, rfl, rfl, by omega, by omega, by decide, HX.out, rfl⟩
  case round =>
    obtain ⟨k, v, rfl, rfl, hk, hkl, hv, hx, rfl⟩ := hrel
    clear HX
    have HK := Lib.hid hx
    clear hx
    by_cases hk4 : k = 4
    · subst hk4
      have HE : RowKit.Hid (X = .ok v) := Lib.hid HK.out.symm
      clear HK
      go_wp2_with fail
      go_ret
      exact .inr ⟨v, HE.out, rfl, rfl⟩
    · have d1 : decide ((k : Int) < 4) = true := decide_eq_true (by omega)
      obtain ⟨m, hm⟩ : ∃ m, 4 - k = m + 1 := ⟨3 - k, by omega⟩
      rw [hm] at HK
      by_cases hlt : k < l.length
      · obtain ⟨u, hu⟩ : ∃ u, l[k]? = some u := ⟨l[k], List.getElem?_eq_getElem hlt⟩
        have hd : l.drop k = u :: l.drop (k + 1) := by
          have := (List.getElem?_eq_some_iff.1 hu).2
          rw [List.drop_eq_getElem_cons hlt, this]
        rw [hd] at HK
        have d2 : decide (k < l.length) = true := decide_eq_true hlt
        have kx := fun w => idx_at s l HS.out k u hu w
        have HG := Lib.hid (fun w => figure_any u w)
        have HM1 := Lib.hid (fun w => must_ok 10 ⟨#[]⟩ w)
        cases hvu : valF u with
        | none =>
          have HE : RowKit.Hid (X = .error bad) := Lib.hid (by rw [← HK.out]; unfold numF; rw [hvu])
          rw [figZ_none u hvu] at HG
          have HM2 := Lib.hid (fun w => must_no bad ⟨#[]⟩ w)
          clear HK hd hu hvu hm
          go_wp2_with fail
          refine (HM1.out _).mono ?_
          rintro e wz ⟨rfl, rfl⟩
          go_wp2_with fail
          refine (HG.out _).mono ?_
          rintro e wz ⟨rfl, rfl⟩
          go_wp2_with fail
          refine (HM2.out _).mono ?_
          rintro e w2 ⟨q, rfl, hq⟩
          exact ⟨rfl, .inl ⟨bad, HE.out, q, rfl, hq⟩⟩
        | some f =>
          obtain ⟨hf1, hf2⟩ := figZ_some u f hvu
          rw [hf1] at HG
          have HE : RowKit.Hid (numF bad m (l.drop (k + 1)) (v * 16 + f) = X) := Lib.hid (by rw [← HK.out]; conv => rhs; unfold numF; rw [hvu])
          have HM2 := Lib.hid (fun w => must_ok bad ⟨#[]⟩ w)
          have d3 : decide ((0 : Int) ≤ (f : Int)) = true := decide_eq_true (by omega)
          have hv4 : v < 4096 := Nat.lt_of_lt_of_le hv (Nat.le_trans (Nat.pow_le_pow_right (by decide) (show k ≤ 3 by omega)) (by decide))
          have e5 : bits .or .i32 ((v : Int) * 16) (f : Int) = ((v * 16 + f : Nat) : Int) := or16 v f _ (by simp) (by omega) hf2
          have HV : RowKit.Hid (v * 16 + f < 16 ^ (k + 1)) := Lib.hid (by rw [Nat.pow_succ]; omega)
          have HM : RowKit.Hid (4 - (k + 1) = m) := Lib.hid (by omega)
          clear HK hd hu hvu hm hf1 hf2
          go_wp2_with fail
          refine (HM1.out _).mono ?_
          rintro e wz ⟨rfl, rfl⟩
          go_wp2_with fail
          refine (HG.out _).mono ?_
          rintro e wz ⟨rfl, rfl⟩
          go_wp2_with fail
          refine (HM2.out _).mono ?_
          rintro e wz ⟨rfl, rfl⟩
          go_wp2_with fail
          go_roundw
          case rel => exact ⟨k + 1, v * 16 + f, rfl, by simp, by omega, by omega, HV.out, by rw [HM.out]; exact HE.out, trivial⟩
          case measure => simp [intOf]; omega
      · have HE : RowKit.Hid (X = .error 10) := Lib.hid (by rw [← HK.out, List.drop_eq_nil_of_le (by omega)]; rfl)
        have d2 : decide (k < l.length) = false := decide_eq_false hlt
        have HM1 := Lib.hid (fun w => must_no 10 ⟨#[]⟩ w)
        clear HK hm
        go_wp2_with fail
        refine (HM1.out _).mono ?_
        rintro e w2 ⟨q, rfl, hq⟩
        exact ⟨rfl, .inl ⟨10, HE.out, q, rfl, hq⟩⟩
end Go.Proofs.YtanmkddmebhdpaaDoor
