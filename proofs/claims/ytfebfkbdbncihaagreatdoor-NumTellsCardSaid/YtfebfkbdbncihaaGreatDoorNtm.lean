/- Contracts of Text and of the reference's Text; the law NumTells. -/
import Derived.Test.YtfebfkbdbncihaaGreatDoorNtl
import Derived.Test.YtfebfkbdbncihaaGreatDoorNui
namespace Go.Proofs.YtfebfkbdbncihaaGreatDoor
set_option maxRecDepth 100000
open Go.RowKit

theorem order_gt (x y : Nat) (hx : nanW x = false) (hy : nanW y = false) (h0 : (zeroW x && zeroW y) = false) : (ord x y == some .gt) = decide (key y < key x) := by
  rw [← order_lt y x hy hx (by rw [Bool.and_comm]; exact h0), ord_def, order_rank x y hx hy, order_rank y x hy hx]
  rcases Int.lt_trichotomy (rank x) (rank y) with h | h | h
  · rw [Int.compare_eq_lt.2 h, Int.compare_eq_gt.2 h]; rfl
  · rw [h, Int.compare_eq_eq.2 rfl]; rfl
  · rw [Int.compare_eq_gt.2 h, Int.compare_eq_lt.2 h]; rfl
theorem fin_zero (x : Nat) (hn : 0 < rung x) : zeroW x = false := by unfold zeroW; exact decide_eq_false (by omega)
/-- A float's text, where it is no infinity and not 0. -/
def txF (x : Nat) : List UInt8 := if inR x && (ord x (yW x) == some .eq) then Lib.itoa (nZ x) else ftW x
/-- How a float stands to the two edges. -/
theorem edges (x : Nat) (hn : 0 < rung x) (hi : rung x < infR) :
    (inR x = true ∧ (ord x negE == some .gt) = true ∧ (ord x negE == some .eq) = false ∧ (ord x posE == some .lt) = true) ∨
    (inR x = true ∧ (ord x negE == some .gt) = false ∧ (ord x negE == some .eq) = true ∧ (ord x posE == some .lt) = true) ∨
    (inR x = false ∧ (ord x negE == some .gt) = false ∧ (ord x negE == some .eq) = false) ∨
    (inR x = false ∧ (ord x negE == some .gt) = true ∧ (ord x negE == some .eq) = false ∧ (ord x posE == some .lt) = false) := by
  have hnn := fin_nan x hi
  have hz := fin_zero x hn
  have g1 := order_gt x negE hnn (by decide) (by rw [hz]; rfl)
  have g2 : (ord x negE == some .eq) = _ := order_eq x negE hnn (by decide)
  have g3 : (ord x posE == some .lt) = _ := order_lt x posE hnn (by decide) (by rw [hz]; rfl)
  rw [hz, Bool.false_and, Bool.false_or] at g2
  rw [g1, g2, g3]
  unfold inR
  have k1 : key negE = -4890909195324358657 := by decide
  have k2 : key posE = 4890909195324358656 := by decide
  rw [k1, k2]
  generalize key x = k
  by_cases h1 : (-4890909195324358657 : Int) < k
  · by_cases h3 : k < 4890909195324358656
    · left; simp [h1, h3]; omega
    · right; right; right; simp [h1, h3]; omega
  · by_cases h2 : k = -4890909195324358657
    · right; left; simp [h2]
    · right; right; left; simp [h1, h2]; omega
theorem inf_fin (x : Nat) (hi : rung x < infR) : infW x = false := by unfold infW; exact decide_eq_false (by omega)
set_option maxHeartbeats 4000000 in
theorem text_fin (x : Nat) (w : World) (hx : x < 2 ^ 64) (hn : 0 < rung x) (hi : rung x < infR) (ht : PTab w) (hts : NTabs w) :
    Calls Tryz.prog 20 #[.float .f64 x] w fun e w' => e = .returned (.tuple #[.string (tx (txF x)), .nilIface]) ∧ Below w.heap.size w w' := by
  have HT := Lib.hid (fun wx => trunc_any x wx (fin_nan x hi))
  rw [show FloatKind.f64.encode ((FloatKind.f64.decode x).integral .zero) = yW x from rfl] at HT
  have HN := Lib.hid (fun wx => isnan_any x wx)
  rw [fin_nan x hi] at HN
  have HF := Lib.hid (fun wx => isinf_any x wx hx (fin_nan x hi))
  rw [inf_fin x hi] at HF
  have hz : (ord x 0 == some .eq) = false := by rw [ord_def, order_zero x (fin_nan x hi), fin_zero x hn]
  have HFF := Lib.hid (ff36 x w hx hn hi ht hts)
  have HE := edges x hn hi
  have HC := Lib.hid (fun h => conv_run x hi h)
  have HI := Lib.hid (fun h => Tryz.strconv_FormatInt_10 (nZ x) (nZ_in x hi h).1 (nZ_in x hi h).2 w hts.u64)
  have HX : RowKit.Hid (txF x = if inR x && (ord x (yW x) == some .eq) then Lib.itoa (nZ x) else ftW x) := Lib.hid rfl
  generalize yW x = y at HT HX
  generalize ftW x = ft at HFF HX
  generalize txF x = tt at HX ⊢
  generalize nZ x = n at HC HI HX
  generalize inR x = r at HC HI HX HE
  clear hn hi hts ht
  cases hq : (ord x y == some .eq)
  · rw [hq, Bool.and_false, if_neg (by simp)] at HX
    clear HE HC HI
    go_enter Tryz.func20, Tryz.ntmps20
    go_wp2_with (first | (go_at_call 22; refine (HN.out _).mono ?_; rintro e w' ⟨rfl, rfl⟩) | (go_at_call 23; refine (HF.out _).mono ?_; rintro e w' ⟨rfl, rfl⟩) | (go_at_call 34; refine (HT.out _).mono ?_; rintro e w' ⟨rfl, rfl⟩) | (go_at_call 36; refine HFF.out.mono ?_; rintro e w2 ⟨rfl, hb2⟩))
    go_ret2
    exact ⟨by rw [HX.out]; rfl, hb2⟩
  · rw [hq, Bool.and_true] at HX
    rcases HE with ⟨hr, g1, g2, g3⟩ | ⟨hr, g1, g2, g3⟩ | ⟨hr, g1, g2⟩ | ⟨hr, g1, g2, g3⟩
    · have hcv := HC.out hr
      have HII := Lib.hid (HI.out hr)
      rw [hr, if_pos rfl] at HX
      clear HC HI HFF hr
      go_enter Tryz.func20, Tryz.ntmps20
      go_wp2_with (first | (go_at_call 22; refine (HN.out _).mono ?_; rintro e w' ⟨rfl, rfl⟩) | (go_at_call 23; refine (HF.out _).mono ?_; rintro e w' ⟨rfl, rfl⟩) | (go_at_call 34; refine (HT.out _).mono ?_; rintro e w' ⟨rfl, rfl⟩) | (go_at_call 35; refine HII.out.mono ?_; rintro e w2 ⟨rfl, k2, os2, rfl⟩))
      go_ret2
      exact ⟨by rw [HX.out]; rfl, below_grow _ _ _⟩
    · have hcv := HC.out hr
      have HII := Lib.hid (HI.out hr)
      rw [hr, if_pos rfl] at HX
      clear HC HI HFF hr
      go_enter Tryz.func20, Tryz.ntmps20
      go_wp2_with (first | (go_at_call 22; refine (HN.out _).mono ?_; rintro e w' ⟨rfl, rfl⟩) | (go_at_call 23; refine (HF.out _).mono ?_; rintro e w' ⟨rfl, rfl⟩) | (go_at_call 34; refine (HT.out _).mono ?_; rintro e w' ⟨rfl, rfl⟩) | (go_at_call 35; refine HII.out.mono ?_; rintro e w2 ⟨rfl, k2, os2, rfl⟩))
      go_ret2
      exact ⟨by rw [HX.out]; rfl, below_grow _ _ _⟩
    · rw [hr, if_neg (by decide)] at HX
      clear HC HI hr
      go_enter Tryz.func20, Tryz.ntmps20
      go_wp2_with (first | (go_at_call 22; refine (HN.out _).mono ?_; rintro e w' ⟨rfl, rfl⟩) | (go_at_call 23; refine (HF.out _).mono ?_; rintro e w' ⟨rfl, rfl⟩) | (go_at_call 34; refine (HT.out _).mono ?_; rintro e w' ⟨rfl, rfl⟩) | (go_at_call 36; refine HFF.out.mono ?_; rintro e w2 ⟨rfl, hb2⟩))
      go_ret2
      exact ⟨by rw [HX.out]; rfl, hb2⟩
    · rw [hr, if_neg (by decide)] at HX
      clear HC HI hr
      go_enter Tryz.func20, Tryz.ntmps20
      go_wp2_with (first | (go_at_call 22; refine (HN.out _).mono ?_; rintro e w' ⟨rfl, rfl⟩) | (go_at_call 23; refine (HF.out _).mono ?_; rintro e w' ⟨rfl, rfl⟩) | (go_at_call 34; refine (HT.out _).mono ?_; rintro e w' ⟨rfl, rfl⟩) | (go_at_call 36; refine HFF.out.mono ?_; rintro e w2 ⟨rfl, hb2⟩))
      go_ret2
      exact ⟨by rw [HX.out]; rfl, hb2⟩
end Go.Proofs.YtfebfkbdbncihaaGreatDoor
