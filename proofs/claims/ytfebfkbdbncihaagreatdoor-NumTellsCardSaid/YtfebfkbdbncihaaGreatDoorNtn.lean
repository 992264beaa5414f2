/- Contract of the reference's Text. -/
import Derived.Test.YtfebfkbdbncihaaGreatDoorNtm
namespace Go.Proofs.YtfebfkbdbncihaaGreatDoor
set_option maxRecDepth 100000
open Go.RowKit

theorem order_self (x : Nat) (h : nanW x = false) : (ord x x != some .eq) = false := by
  rw [ord_def, order_rank x x h h, Int.compare_eq_eq.2 rfl]; rfl
/-- A float that is no infinity lies between the greatest and the least. -/
theorem fin_ends (x : Nat) (hn : 0 < rung x) (hi : rung x < infR) : (ord x 9218868437227405311 == some .gt) = false ∧ (ord x 18442240474082181119 == some .lt) = false := by
  have hnn := fin_nan x hi
  have hz := fin_zero x hn
  have h1 : (ord x 9218868437227405311 == some .gt) = _ := order_gt x 9218868437227405311 hnn (by decide) (by rw [hz]; rfl)
  have h2 : (ord x 18442240474082181119 == some .lt) = _ := order_lt x 18442240474082181119 hnn (by decide) (by rw [hz]; rfl)
  rw [h1, h2]
  have k1 : key 9218868437227405311 = 9218868437227405311 := by decide
  have k2 : key 18442240474082181119 = -9218868437227405312 := by decide
  rw [k1, k2]
  unfold infR at hi
  have hk : key x ≤ 9218868437227405311 ∧ -9218868437227405312 ≤ key x := by unfold key; split <;> omega
  exact ⟨decide_eq_false (by omega), decide_eq_false (by omega)⟩
set_option maxHeartbeats 4000000 in
theorem ref_fin (x : Nat) (w : World) (hx : x < 2 ^ 64) (hn : 0 < rung x) (hi : rung x < infR) (ht : PTab w) (hts : NTabs w) :
    Calls Tryz.prog 21 #[.float .f64 x] w fun e w' => e = .returned (.tuple #[.string (tx (txF x)), .int .i64 0]) ∧ Below w.heap.size w w' := by
  have hs := order_self x (fin_nan x hi)
  obtain ⟨m1, m2⟩ := fin_ends x hn hi
  have hz : (ord x 0 == some .eq) = false := by rw [ord_def, order_zero x (fin_nan x hi), fin_zero x hn]
  have HFF := Lib.hid (ff36 x w hx hn hi ht hts)
  have HE := edges x hn hi
  have HC := Lib.hid (fun h => conv_run x hi h)
  have HI := Lib.hid (fun h => Tryz.strconv_Itoa (nZ x) (nZ_in x hi h).1 (nZ_in x hi h).2 w hts.u64)
  have HX : RowKit.Hid (txF x = if inR x && (ord x (yW x) == some .eq) then Lib.itoa (nZ x) else ftW x) := Lib.hid rfl
  rw [← back_eq x hn hi] at HX
  generalize ftW x = ft at HFF HX
  generalize txF x = tt at HX ⊢
  generalize nZ x = n at HC HI HX
  generalize inR x = r at HC HI HX HE
  have hbk : ∀ w, (convert 2 28 (.int .i64 n)).run Tryz.prog w = .ok (.float .f64 (floatOfInt .f64 n)) w := fun w => run_convert_int_float w 2 28 .i64 .f64 n (by kernel_rfl) (by kernel_rfl)
  generalize floatOfInt .f64 n = z at HX hbk
  clear hn hi hts ht
  rcases HE with ⟨hr, g1, g2, g3⟩ | ⟨hr, g1, g2, g3⟩ | ⟨hr, g1, g2⟩ | ⟨hr, g1, g2, g3⟩
  case inl | inr.inl =>
    have hcv := HC.out hr
    have HII := Lib.hid (HI.out hr)
    rw [hr, Bool.true_and] at HX
    clear HC HI hr
    cases hq : (ord z x == some .eq)
    · rw [hq, if_neg (by decide)] at HX
      go_enter Tryz.func21, Tryz.ntmps21
      go_wp2_with (go_at_call 36; refine HFF.out.mono ?_; rintro e w2 ⟨rfl, hb2⟩)
      go_ret2
      exact ⟨by rw [HX.out]; rfl, hb2⟩
    · rw [hq, if_pos rfl] at HX
      go_enter Tryz.func21, Tryz.ntmps21
      go_wp2_with (go_at_call 32; refine HII.out.mono ?_; rintro e w2 ⟨rfl, k2, os2, rfl⟩)
      go_ret2
      exact ⟨by rw [HX.out]; rfl, below_grow _ _ _⟩
  all_goals
    rw [hr, Bool.false_and, if_neg (by decide)] at HX
    clear HC HI hr hbk
    go_enter Tryz.func21, Tryz.ntmps21
    go_wp2_with (go_at_call 36; refine HFF.out.mono ?_; rintro e w2 ⟨rfl, hb2⟩)
    go_ret2
    exact ⟨by rw [HX.out]; rfl, hb2⟩
end Go.Proofs.YtfebfkbdbncihaaGreatDoor
