/- Contract of the law DeflatePacks. -/
import Derived.Test.YtnadnokjhinmcaaDoc
import Derived.Test.YtnadnokjhinmcaaRdf
import Derived.Test.YtnadnokjhinmcaaRfi
namespace Go.Proofs.Ytnadnokjhinmcaa
open Go.RowKit

theorem fixC : FixC := fun A n c l w hr hn => rfix_any A n c l w hr hn
set_option maxHeartbeats 4000000 in
set_option maxRecDepth 10000 in
theorem pac_any (A : Option Addr) (n c : Nat) (l : List UInt8) (z : Int) (w : World) (hr : Rd w w.heap.size A n (us l)) (hA : A = none → c = 0) (hnc : n ≤ c) :
    Calls Try.prog 5 #[.slice A n c, .int .i64 z] w fun e w' => e = .returned (.bool true) ∧ Below w.heap.size w w' := by
  have HR := Lib.hid hr
  have HA := Lib.hid (And.intro hA hnc)
  clear hr hA hnc
  go_enter Try.func5, Try.ntmps5
  go_wp2_with fail
  refine (alive_true w).mono ?_
  rintro e w1 ⟨rfl, hb1⟩
  have HB1 := Lib.hid hb1
  have HR1 := Lib.hid (HR.out.next hb1)
  clear hb1 HR
  by_cases hn : 1000 < n
  · have d1 : decide (1000 < (n : Int)) = true := decide_eq_true (by omega)
    go_wp2_with fail
    go_ret
    exact ⟨rfl, HB1.out⟩
  · have d1 : decide (1000 < (n : Int)) = false := decide_eq_false (by omega)
    obtain ⟨q, hq⟩ : ∃ q, n / 10 = q := ⟨_, rfl⟩
    have e1 : (n : Int).tdiv 10 = (q : Int) := by rw [Int.tdiv_eq_ediv_of_nonneg (by omega)]; omega
    have e2 : (n : Int) / 10 = (q : Int) := by omega
    have HBN := Lib.hid (fun w => bound_nat n q (by omega) hq w)
    have E5 : RowKit.Hid (wrap64 (q : Int) = (q : Int)) := Lib.hid (by unfold wrap64; omega)
    have E3 : RowKit.Hid (wrap64 ((n : Int) + (q : Int)) = (n : Int) + (q : Int)) := Lib.hid (by unfold wrap64; omega)
    have E4 : RowKit.Hid (wrap64 ((n : Int) + (q : Int) + 16) = (n : Int) + (q : Int) + 16) := Lib.hid (by unfold wrap64; omega)
    have HQ := Lib.hid hq
    clear hq
    by_cases hz : z < 0 ∨ 2 < z
    · have HP := Lib.hid (fun w => deflate_range A n c z w hz)
      have HPR := Lib.hid (fun w => rdeflate_range A n c z w hz)
      have HN := Lib.hid (fun w => num_any 1 w)
      clear hz
      go_wp2_with fail
      refine (HP.out w1).mono ?_
      rintro e w2 ⟨rfl, hb2⟩
      have HB2 := Lib.hid (HB1.out.trans (hb2.mono HB1.out.size))
      clear hb2
      go_wp2_with fail
      refine (HPR.out w2).mono ?_
      rintro e wz ⟨rfl, rfl⟩
      go_wp2_with fail
      refine (HN.out _).mono ?_
      rintro e wz ⟨rfl, rfl⟩
      have e7 : wrap64 (q : Int) = (q : Int) := E5.out
      have e8 := E3.out
      have e9 := E4.out
      go_wp2_with fail
      refine (HBN.out _).mono ?_
      rintro e wz ⟨rfl, rfl⟩
      go_wp2_with fail
      refine (bound_neg _ (by omega) (by omega) _).mono ?_
      rintro e wz ⟨rfl, rfl⟩
      go_wp2_with fail
      go_ret
      exact ⟨rfl, HB2.out⟩
    · have HZ : RowKit.Hid (0 ≤ z ∧ z ≤ 2) := Lib.hid (by omega)
      obtain ⟨X, hX⟩ : ∃ X, packT l z = X := ⟨_, rfl⟩
      have HP := Lib.hid (deflate_any A n c l z w1 HR1.out HA.out.1 (by omega) HA.out.2 HZ.out)
      have HPR := Lib.hid (fun w hr => rdeflate_any fixC A n c l z w hr HA.out.1 (by omega) HA.out.2 HZ.out)
      rw [hX] at HP HPR
      have HN := Lib.hid (fun w => num_any 0 w)
      clear hz hX
      go_wp2_with fail
      refine HP.out.mono ?_
      rintro e w2 ⟨v2, rfl, ho2, hb2⟩
      have HO2 := Lib.hid ho2
      have HB2 := Lib.hid (HB1.out.trans (hb2.mono HB1.out.size))
      have HR2 := Lib.hid (HR1.out.next hb2)
      clear ho2 hb2 HP HR1
      obtain ⟨Av, cv, hv2⟩ := HO2.out.slice
      subst hv2
      go_wp2_with fail
      refine (HPR.out w2 HR2.out).mono ?_
      rintro e w3 ⟨v3, rfl, ho3, hb3⟩
      obtain ⟨A3, c3, hv3⟩ := ho3.slice
      subst hv3
      have HX := Lib.hid (HO2.out.rd.2.next hb3)
      have HY := Lib.hid ho3.rd.2
      have HB3 := Lib.hid (HB2.out.trans (hb3.mono HB2.out.size))
      clear ho3 hb3 HO2 HPR HR2
      generalize X.length = xl at HX HY ⊢
      go_wp2_with fail
      refine (HN.out w3).mono ?_
      rintro e wz ⟨rfl, rfl⟩
      go_wp2_with fail
      refine (bytes_same Av A3 xl cv c3 X _ HX.out HY.out).mono ?_
      rintro e wz ⟨rfl, rfl⟩
      have e7 : wrap64 (q : Int) = (q : Int) := E5.out
      have e8 := E3.out
      have e9 := E4.out
      go_wp2_with fail
      refine (HBN.out _).mono ?_
      rintro e wz ⟨rfl, rfl⟩
      go_wp2_with fail
      refine (bound_neg _ (by omega) (by omega) _).mono ?_
      rintro e wz ⟨rfl, rfl⟩
      go_wp2_with fail
      go_ret
      exact ⟨rfl, HB3.out⟩
end Go.Proofs.Ytnadnokjhinmcaa
