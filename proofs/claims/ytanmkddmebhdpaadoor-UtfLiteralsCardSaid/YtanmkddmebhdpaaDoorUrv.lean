/- Contracts of the reference's value, figures, Put. -/
import Derived.Test.YtanmkddmebhdpaaDoorUrs
import Derived.Test.YtanmkddmebhdpaaDoorUtv
namespace Go.Proofs.YtanmkddmebhdpaaDoor
set_option maxRecDepth 20000
open Go.RowKit Go.Lib

set_option maxHeartbeats 4000000 in
theorem value_any (u : UInt8) (w : World) : Calls Tryd.prog 29 #[.int .u8 (u.toNat : Int)] w fun e w' => e = .returned (.int .i64 (figZ u)) ∧ w' = w := by
  have hu := u.toNat_lt
  have HF := Lib.hid (figZ_at u)
  obtain ⟨x, hx⟩ : ∃ x, u.toNat = x := ⟨_, rfl⟩
  rw [hx] at HF hu
  rw [HF.out, hx]
  clear HF hx
  have e1 : (x : Int) % 256 = (x : Int) := by omega
  by_cases h1 : 48 ≤ x ∧ x ≤ 57
  · rw [if_pos h1]
    have d0 : decide ((48 : Int) ≤ (x : Int)) = true := decide_eq_true (by omega)
    have d1 : decide ((x : Int) ≤ 57) = true := decide_eq_true (by omega)
    have e2 : ((x : Int) - 48) % 256 = (x : Int) - 48 := by omega
    clear h1
    go_enter Tryd.func29, Tryd.ntmps29
    go_wp2_with fail
    go_ret
    exact ⟨rfl, rfl⟩
  · rw [if_neg h1]
    by_cases h2 : 97 ≤ x ∧ x ≤ 102
    · rw [if_pos h2]
      have d0 : decide ((48 : Int) ≤ (x : Int)) = true := decide_eq_true (by omega)
      have d1 : decide ((x : Int) ≤ 57) = false := decide_eq_false (by omega)
      have d2 : decide ((97 : Int) ≤ (x : Int)) = true := decide_eq_true (by omega)
      have d3 : decide ((x : Int) ≤ 102) = true := decide_eq_true (by omega)
      have e2 : ((x : Int) - 97) % 256 = (x : Int) - 97 := by omega
      have e3 : (x : Int) - 97 + 10 = (x : Int) - 87 := by omega
      clear h1 h2
      go_enter Tryd.func29, Tryd.ntmps29
      go_wp2_with fail
      go_ret
      exact ⟨rfl, rfl⟩
    · rw [if_neg h2]
      by_cases h3 : 65 ≤ x ∧ x ≤ 70
      · rw [if_pos h3]
        have d0 : decide ((48 : Int) ≤ (x : Int)) = true := decide_eq_true (by omega)
        have d1 : decide ((x : Int) ≤ 57) = false := decide_eq_false (by omega)
        have d2 : decide ((97 : Int) ≤ (x : Int)) = false := decide_eq_false (by omega)
        have d3 : decide ((65 : Int) ≤ (x : Int)) = true := decide_eq_true (by omega)
        have d4 : decide ((x : Int) ≤ 70) = true := decide_eq_true (by omega)
        have e2 : ((x : Int) - 65) % 256 = (x : Int) - 65 := by omega
        have e3 : (x : Int) - 65 + 10 = (x : Int) - 55 := by omega
        clear h1 h2 h3
        go_enter Tryd.func29, Tryd.ntmps29
        go_wp2_with fail
        go_ret
        exact ⟨rfl, rfl⟩
      · rw [if_neg h3]
        by_cases g1 : x < 48
        · skip
          have d0 : decide ((48 : Int) ≤ (x : Int)) = false := decide_eq_false (by omega)
          have d1 : decide ((97 : Int) ≤ (x : Int)) = false := decide_eq_false (by omega)
          have d2 : decide ((65 : Int) ≤ (x : Int)) = false := decide_eq_false (by omega)
          clear h1 h2 h3 g1
          go_enter Tryd.func29, Tryd.ntmps29
          go_wp2_with fail
          go_ret
          exact ⟨rfl, rfl⟩
        · by_cases g2 : x < 65
          · skip
            have d0 : decide ((48 : Int) ≤ (x : Int)) = true := decide_eq_true (by omega)
            have d1 : decide ((x : Int) ≤ 57) = false := decide_eq_false (by omega)
            have d2 : decide ((97 : Int) ≤ (x : Int)) = false := decide_eq_false (by omega)
            have d3 : decide ((65 : Int) ≤ (x : Int)) = false := decide_eq_false (by omega)
            clear h1 h2 h3 g1 g2
            go_enter Tryd.func29, Tryd.ntmps29
            go_wp2_with fail
            go_ret
            exact ⟨rfl, rfl⟩
          · by_cases g3 : x < 97
            · skip
              have d0 : decide ((48 : Int) ≤ (x : Int)) = true := decide_eq_true (by omega)
              have d1 : decide ((x : Int) ≤ 57) = false := decide_eq_false (by omega)
              have d2 : decide ((97 : Int) ≤ (x : Int)) = false := decide_eq_false (by omega)
              have d3 : decide ((65 : Int) ≤ (x : Int)) = true := decide_eq_true (by omega)
              have d4 : decide ((x : Int) ≤ 70) = false := decide_eq_false (by omega)
              clear h1 h2 h3 g1 g2 g3
              go_enter Tryd.func29, Tryd.ntmps29
              go_wp2_with fail
              go_ret
              exact ⟨rfl, rfl⟩
            · skip
              have d0 : decide ((48 : Int) ≤ (x : Int)) = true := decide_eq_true (by omega)
              have d1 : decide ((x : Int) ≤ 57) = false := decide_eq_false (by omega)
              have d2 : decide ((97 : Int) ≤ (x : Int)) = true := decide_eq_true (by omega)
              have d3 : decide ((x : Int) ≤ 102) = false := decide_eq_false (by omega)
              have d4 : decide ((65 : Int) ≤ (x : Int)) = true := decide_eq_true (by omega)
              have d5 : decide ((x : Int) ≤ 70) = false := decide_eq_false (by omega)
              clear h1 h2 h3 g1 g2 g3
              go_enter Tryd.func29, Tryd.ntmps29
              go_wp2_with fail
              go_ret
              exact ⟨rfl, rfl⟩
/-- What figures answers. -/
def figR : Except Nat Nat → Value
  | .ok x => .tuple #[.int .i64 (x : Int), .int .i64 0]
  | .error k => .tuple #[.int .i64 0, .int .i64 (k : Int)]
set_option maxHeartbeats 4000000 in
theorem figures_any (s : ByteArray) (l : List UInt8) (p bad : Nat) (w : World) (h : s.data.toList = l) (hp : p ≤ 1000) :
    Calls Tryd.prog 19 #[.string s, .int .i64 (p : Int), .int .i64 (bad : Int)] w fun e w' => e = .returned (figR (numF bad 4 (l.drop p) 0)) ∧ w' = w := by
  obtain ⟨X, hX⟩ : ∃ X, numF bad 4 (l.drop p) 0 = X := ⟨_, rfl⟩
  rw [hX]
  have HS := Lib.hid h
  have hsz : s.size = l.length := by rw [Lib.size_eq, h]
  have HSZ := Lib.hid hsz
  have HX := Lib.hid hX
  clear h hX hsz
  go_enter Tryd.func19, Tryd.ntmps19
  go_wp2_with fail
  go_loopw [8, 9] (fun x i wr => ∃ k v q : Nat, x = .int .i64 (v : Int) ∧ i = .int .i64 (q : Int) ∧ q = p + k ∧ k ≤ 4 ∧ v < 16 ^ k ∧ numF bad (4 - k) (l.drop q) v = X ∧ wr = w) (fun _ i _ => p + 4 - (intOf i).toNat)
  case atStart => exact ⟨0, 0, p, rfl, rfl, rfl, by omega, by decide, HX.out, rfl⟩
  case round =>
    obtain ⟨k, v, q, rfl, rfl, hq, hk, hv, hx, hw⟩ := hrel
    clear HX
    have HK := Lib.hid hx
    have HW := Lib.hid hw
    clear hx hw
    have hqb : q ≤ 1004 := by omega
    by_cases hk4 : k = 4
    · subst hk4
      have HE : RowKit.Hid (X = .ok v) := Lib.hid HK.out.symm
      have d1 : decide ((q : Int) < (p : Int) + 4) = false := decide_eq_false (by omega)
      clear HK hq hv hk
      go_wp2_with fail
      go_ret2
      exact ⟨by rw [HE.out]; rfl, HW.out⟩
    · have d1 : decide ((q : Int) < (p : Int) + 4) = true := decide_eq_true (by omega)
      obtain ⟨m, hm⟩ : ∃ m, 4 - k = m + 1 := ⟨3 - k, by omega⟩
      rw [hm] at HK
      by_cases hlt : q < l.length
      · obtain ⟨u, hu⟩ : ∃ u, l[q]? = some u := ⟨l[q], List.getElem?_eq_getElem hlt⟩
        have hd : l.drop q = u :: l.drop (q + 1) := by
          have := (List.getElem?_eq_some_iff.1 hu).2
          rw [List.drop_eq_getElem_cons hlt, this]
        rw [hd] at HK
        have hs1 : s.size = l.length := HSZ.out
        have d2 : decide ((s.size : Int) ≤ (q : Int)) = false := decide_eq_false (by omega)
        have d2n : decide (s.size ≤ q) = false := decide_eq_false (by omega)
        have d2l : decide (l.length ≤ q) = false := decide_eq_false (by omega)
        have kx := fun w => idx_at s l HS.out q u hu w
        have HG := Lib.hid (fun w => value_any u w)
        clear hs1
        cases hvu : valF u with
        | none =>
          have HE : RowKit.Hid (X = .error bad) := Lib.hid (by rw [← HK.out]; unfold numF; rw [hvu])
          rw [figZ_none u hvu] at HG
          clear HK hd hu hvu hm hlt hv hk hk4 hq
          go_wp2_with fail
          refine (HG.out _).mono ?_
          rintro e wz ⟨rfl, hwz⟩
          have HWZ := Lib.hid (hwz.trans HW.out)
          clear hwz
          go_wp2_with fail
          go_ret2
          exact ⟨by rw [HE.out]; rfl, HWZ.out⟩
        | some f =>
          obtain ⟨hf1, hf2⟩ := figZ_some u f hvu
          rw [hf1] at HG
          have HE : RowKit.Hid (numF bad m (l.drop (q + 1)) (v * 16 + f) = X) := Lib.hid (by rw [← HK.out]; conv => rhs; unfold numF; rw [hvu])
          have d3 : decide ((f : Int) < 0) = false := decide_eq_false (by omega)
          have hv4 : v < 4096 := Nat.lt_of_lt_of_le hv (Nat.le_trans (Nat.pow_le_pow_right (by decide) (show k ≤ 3 by omega)) (by decide))
          have HV : RowKit.Hid (v * 16 + f < 16 ^ (k + 1)) := Lib.hid (by rw [Nat.pow_succ]; omega)
          have HM : RowKit.Hid (4 - (k + 1) = m ∧ k + 1 ≤ 4 ∧ q + 1 = p + (k + 1)) := Lib.hid (by omega)
          clear HK hd hu hvu hm hf1 hlt hv hk hk4 hq
          go_wp2_with fail
          refine (HG.out _).mono ?_
          rintro e wz ⟨rfl, hwz⟩
          have HWZ := Lib.hid (hwz.trans HW.out)
          clear hwz
          go_wp2_with fail
          refine (HG.out _).mono ?_
          rintro e wy ⟨rfl, hwy⟩
          have HWY := Lib.hid (hwy.trans HWZ.out)
          clear hwy
          go_wp2_with fail
          go_roundw
          case rel => exact ⟨k + 1, v * 16 + f, q + 1, by simp, by simp, HM.out.2.2, HM.out.2.1, HV.out, by rw [HM.out.1]; exact HE.out, HWY.out⟩
          case measure => have := HM.out; simp [intOf]; omega
      · have HE : RowKit.Hid (X = .error 10) := Lib.hid (by rw [← HK.out, List.drop_eq_nil_of_le (by omega)]; rfl)
        have hs1 : s.size = l.length := HSZ.out
        have d2 : decide ((s.size : Int) ≤ (q : Int)) = true := decide_eq_true (by omega)
        have d2n : decide (s.size ≤ q) = true := decide_eq_true (by omega)
        have d2l : decide (l.length ≤ q) = true := decide_eq_true (by omega)
        clear HK hm hs1 hlt hv hk hk4 hq
        go_wp2_with fail
        go_ret2
        exact ⟨by rw [HE.out]; rfl, HW.out⟩
set_option maxHeartbeats 1000000 in
theorem put_1 (c : Nat) (w : World) (h : c < 128) : Calls Tryd.prog 20 #[.int .i64 (c : Int)] w fun e w' => ∃ v, e = .returned v ∧ Own w' w.heap.size v (encB c) ∧ w.grownBy w' none := by
  obtain ⟨u0, rfl⟩ : ∃ u : UInt8, c = u.toNat := ⟨nb c, (nb_toNat (by omega)).symm⟩
  have HF : RowKit.Hid (encB u0.toNat = [u0]) := Lib.hid (by unfold encB; rw [if_pos h, nb_of])
  have d0 : decide ((u0.toNat : Int) < 128) = true := decide_eq_true (by omega)
  have m0 : (u0.toNat : Int) % 256 = (u0.toNat : Int) := by omega
  clear h
  go_enter Tryd.func20, Tryd.ntmps20
  go_wp2_with fail
  go_ret
  exact ⟨_, rfl, by rw [HF.out]; exact Own.lit _ _ [u0] 1 rfl rfl (by decide), World.grownBy_alloc _ _ none⟩
set_option maxHeartbeats 1000000 in
theorem put_2 (c : Nat) (w : World) (h : 128 ≤ c) (h2 : c < 2048) : Calls Tryd.prog 20 #[.int .i64 (c : Int)] w fun e w' => ∃ v, e = .returned v ∧ Own w' w.heap.size v (encB c) ∧ w.grownBy w' none := by
  obtain ⟨u0, h00, e0⟩ : ∃ u : UInt8, nb (192 + c / 64) = u ∧ 192 + (c : Int) / 64 = (u.toNat : Int) := ⟨_, rfl, nb_int _ _ (by omega) (by omega)⟩
  obtain ⟨u1, h01, e1⟩ : ∃ u : UInt8, nb (128 + c % 64) = u ∧ 128 + (c : Int) % 64 = (u.toNat : Int) := ⟨_, rfl, nb_int _ _ (by omega) (by omega)⟩
  have HF : RowKit.Hid (encB c = [u0, u1]) := Lib.hid (by unfold encB; rw [if_neg (by omega), if_pos (by omega), h00, h01])
  have d0 : decide ((c : Int) < 128) = false := decide_eq_false (by omega)
  have d1 : decide ((c : Int) < 2048) = true := decide_eq_true (by omega)
  have m0 : (u0.toNat : Int) % 256 = (u0.toNat : Int) := by have := u0.toNat_lt; omega
  have hcb : c ≤ 1114111 := by omega
  clear h00 h01 h h2
  go_enter Tryd.func20, Tryd.ntmps20
  go_wp2_with fail
  go_ret
  exact ⟨_, rfl, by rw [HF.out]; exact Own.lit _ _ [u0, u1] 2 rfl rfl (by decide), World.grownBy_alloc _ _ none⟩
set_option maxHeartbeats 1000000 in
theorem put_3 (c : Nat) (w : World) (h : 2048 ≤ c) (h2 : c < 65536) : Calls Tryd.prog 20 #[.int .i64 (c : Int)] w fun e w' => ∃ v, e = .returned v ∧ Own w' w.heap.size v (encB c) ∧ w.grownBy w' none := by
  obtain ⟨u0, h00, e0⟩ : ∃ u : UInt8, nb (224 + c / 4096) = u ∧ 224 + (c : Int) / 4096 = (u.toNat : Int) := ⟨_, rfl, nb_int _ _ (by omega) (by omega)⟩
  obtain ⟨u1, h01, e1⟩ : ∃ u : UInt8, nb (128 + c / 64 % 64) = u ∧ 128 + (c : Int) / 64 % 64 = (u.toNat : Int) := ⟨_, rfl, nb_int _ _ (by omega) (by omega)⟩
  obtain ⟨u2, h02, e2⟩ : ∃ u : UInt8, nb (128 + c % 64) = u ∧ 128 + (c : Int) % 64 = (u.toNat : Int) := ⟨_, rfl, nb_int _ _ (by omega) (by omega)⟩
  have HF : RowKit.Hid (encB c = [u0, u1, u2]) := Lib.hid (by unfold encB; rw [if_neg (by omega), if_neg (by omega), if_pos (by omega), h00, h01, h02])
  have d0 : decide ((c : Int) < 128) = false := decide_eq_false (by omega)
  have d1 : decide ((c : Int) < 2048) = false := decide_eq_false (by omega)
  have d2 : decide ((c : Int) < 65536) = true := decide_eq_true (by omega)
  have m0 : (u0.toNat : Int) % 256 = (u0.toNat : Int) := by have := u0.toNat_lt; omega
  have hcb : c ≤ 1114111 := by omega
  clear h00 h01 h02 h h2
  go_enter Tryd.func20, Tryd.ntmps20
  go_wp2_with fail
  go_ret
  exact ⟨_, rfl, by rw [HF.out]; exact Own.lit _ _ [u0, u1, u2] 3 rfl rfl (by decide), World.grownBy_alloc _ _ none⟩
set_option maxHeartbeats 1000000 in
theorem put_4 (c : Nat) (w : World) (h : 65536 ≤ c) (h2 : c ≤ 1114111) : Calls Tryd.prog 20 #[.int .i64 (c : Int)] w fun e w' => ∃ v, e = .returned v ∧ Own w' w.heap.size v (encB c) ∧ w.grownBy w' none := by
  obtain ⟨u0, h00, e0⟩ : ∃ u : UInt8, nb (240 + c / 262144) = u ∧ 240 + (c : Int) / 262144 = (u.toNat : Int) := ⟨_, rfl, nb_int _ _ (by omega) (by omega)⟩
  obtain ⟨u1, h01, e1⟩ : ∃ u : UInt8, nb (128 + c / 4096 % 64) = u ∧ 128 + (c : Int) / 4096 % 64 = (u.toNat : Int) := ⟨_, rfl, nb_int _ _ (by omega) (by omega)⟩
  obtain ⟨u2, h02, e2⟩ : ∃ u : UInt8, nb (128 + c / 64 % 64) = u ∧ 128 + (c : Int) / 64 % 64 = (u.toNat : Int) := ⟨_, rfl, nb_int _ _ (by omega) (by omega)⟩
  obtain ⟨u3, h03, e3⟩ : ∃ u : UInt8, nb (128 + c % 64) = u ∧ 128 + (c : Int) % 64 = (u.toNat : Int) := ⟨_, rfl, nb_int _ _ (by omega) (by omega)⟩
  have HF : RowKit.Hid (encB c = [u0, u1, u2, u3]) := Lib.hid (by unfold encB; rw [if_neg (by omega), if_neg (by omega), if_neg (by omega), h00, h01, h02, h03])
  have d0 : decide ((c : Int) < 128) = false := decide_eq_false (by omega)
  have d1 : decide ((c : Int) < 2048) = false := decide_eq_false (by omega)
  have d2 : decide ((c : Int) < 65536) = false := decide_eq_false (by omega)
  have m0 : (u0.toNat : Int) % 256 = (u0.toNat : Int) := by have := u0.toNat_lt; omega
  have hcb : c ≤ 1114111 := by omega
  clear h00 h01 h02 h03 h h2
  go_enter Tryd.func20, Tryd.ntmps20
  go_wp2_with fail
  go_ret
  exact ⟨_, rfl, by rw [HF.out]; exact Own.lit _ _ [u0, u1, u2, u3] 4 rfl rfl (by decide), World.grownBy_alloc _ _ none⟩
theorem put_any (c : Nat) (w : World) (h : c ≤ 1114111) : Calls Tryd.prog 20 #[.int .i64 (c : Int)] w fun e w' => ∃ v, e = .returned v ∧ Own w' w.heap.size v (encB c) ∧ w.grownBy w' none := by
  by_cases h1 : c < 128
  · exact put_1 c w h1
  · by_cases h2 : c < 2048
    · exact put_2 c w (by omega) h2
    · by_cases h3 : c < 65536
      · exact put_3 c w (by omega) h3
      · exact put_4 c w (by omega) h
end Go.Proofs.YtanmkddmebhdpaaDoor
