/- Contracts of what is small in the reference: figure, four; Is; the law's alive. -/
import Derived.Test.YtanmkddmebhdpaaUts
import Derived.Deep.RegionWith
namespace Go.Proofs.Ytanmkddmebhdpaa
set_option maxRecDepth 20000
open Go.RowKit Go.Lib

set_option maxHeartbeats 1000000 in
theorem fig_ref (i : Nat) (w : World) (hi : i < 16) : Calls Try.prog 19 #[.int .i64 (i : Int)] w fun e w' => e = .returned (.int .u8 ((figB i).toNat : Int)) ∧ w' = w := by
  by_cases h : i < 10
  · obtain ⟨x, hx⟩ : ∃ x : UInt8, figB i = x := ⟨_, rfl⟩
    have e1 : 48 + (i : Int) = (x.toNat : Int) := by
      rw [← hx]; unfold figB; rw [if_pos h, nb_toNat (by omega)]; omega
    have d1 : decide ((i : Int) < 10) = true := decide_eq_true (by omega)
    rw [hx]
    clear hx
    have E1 := Lib.hid e1
    clear e1
    go_enter Try.func19, Try.ntmps19
    go_wp2_with fail
    go_ret
    exact ⟨by rw [← E1.out]; rfl, rfl⟩
  · obtain ⟨x, hx⟩ : ∃ x : UInt8, figB i = x := ⟨_, rfl⟩
    have e0 : (97 : Int) + (i : Int) - 10 = 87 + (i : Int) := by omega
    have e1 : 87 + (i : Int) = (x.toNat : Int) := by
      rw [← hx]; unfold figB; rw [if_neg h, nb_toNat (by omega)]; omega
    have d1 : decide ((i : Int) < 10) = false := decide_eq_false (by omega)
    rw [hx]
    clear hx
    have E1 := Lib.hid e1
    clear e1
    go_enter Try.func19, Try.ntmps19
    go_wp2_with fail
    go_ret
    exact ⟨by rw [← E1.out]; rfl, rfl⟩
set_option maxHeartbeats 1000000 in
theorem is_text (w : World) : Calls Try.prog 11 #[.iface 32 (.int .i64 9), .int .i64 9] w fun e w' => e = .returned (.bool true) ∧ w' = w := by
  have HN := Lib.hid (num_any 9 w)
  rw [show errV 9 = .iface 32 (.int .i64 9) from rfl] at HN
  go_enter Try.func11, Try.ntmps11
  go_wp2_with fail
  refine HN.out.mono ?_
  rintro e wz ⟨rfl, rfl⟩
  go_wp2_with fail
  go_ret
  exact ⟨rfl, rfl⟩
theorem four_us (n : Nat) : #[Value.int .u8 92, .int .u8 117, U8 (figB (n / 4096)), U8 (figB (n / 256 % 16)), U8 (figB (n / 16 % 16)), U8 (figB (n % 16))].toList = us (fourL n) := rfl
set_option maxHeartbeats 4000000 in
theorem four_ref (n : Nat) (w : World) (h : n < 65536) : Calls Try.prog 15 #[.int .i64 (n : Int)] w fun e w' => ∃ v, e = .returned v ∧ Own w' w.heap.size v (fourL n) ∧ w.grownBy w' none := by
  have H1 := Lib.hid (fun w => fig_ref (n / 4096) w (by omega))
  have H2 := Lib.hid (fun w => fig_ref (n / 256 % 16) w (by omega))
  have H3 := Lib.hid (fun w => fig_ref (n / 16 % 16) w (by omega))
  have H4 := Lib.hid (fun w => fig_ref (n % 16) w (by omega))
  obtain ⟨a1, h1⟩ : ∃ a, n / 4096 = a := ⟨_, rfl⟩
  obtain ⟨a2, h2⟩ : ∃ a, n / 256 % 16 = a := ⟨_, rfl⟩
  obtain ⟨a3, h3⟩ : ∃ a, n / 16 % 16 = a := ⟨_, rfl⟩
  obtain ⟨a4, h4⟩ : ∃ a, n % 16 = a := ⟨_, rfl⟩
  have HU := Lib.hid (four_us n)
  rw [h1, h2, h3, h4] at HU
  rw [h1] at H1
  rw [h2] at H2
  rw [h3] at H3
  rw [h4] at H4
  have e1 : (n : Int) / 4096 = (a1 : Int) := by omega
  have e2 : (n : Int) / 256 % 16 = (a2 : Int) := by omega
  have e3 : (n : Int) / 16 % 16 = (a3 : Int) := by omega
  have e4 : (n : Int) % 16 = (a4 : Int) := by omega
  clear h1 h2 h3 h4
  go_enter Try.func15, Try.ntmps15
  go_wp2_with fail
  refine (H1.out _).mono ?_
  rintro e wz ⟨rfl, rfl⟩
  go_wp2_with fail
  refine (H2.out _).mono ?_
  rintro e wz ⟨rfl, rfl⟩
  go_wp2_with fail
  refine (H3.out _).mono ?_
  rintro e wz ⟨rfl, rfl⟩
  go_wp2_with fail
  refine (H4.out _).mono ?_
  rintro e wz ⟨rfl, rfl⟩
  go_wp2_with fail
  go_ret
  exact ⟨_, rfl, Own.lit _ _ (fourL n) 6 HU.out rfl (by decide), World.grownBy_alloc _ _ none⟩
end Go.Proofs.Ytanmkddmebhdpaa
