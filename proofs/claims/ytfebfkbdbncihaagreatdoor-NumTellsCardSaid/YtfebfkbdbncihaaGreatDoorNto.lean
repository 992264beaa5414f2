/- Both texts, whatever the float; the law NumTells. -/
import Derived.Test.YtfebfkbdbncihaaGreatDoorNtn
namespace Go.Proofs.YtfebfkbdbncihaaGreatDoor
set_option maxRecDepth 100000
open Go.RowKit

theorem text_nan (x : Nat) (w : World) (hn : nanW x = true) : Calls Tryz.prog 20 #[.float .f64 x] w fun e w' => e = .returned (.tuple #[.string (tx []), errV 1]) ∧ Below w.heap.size w w' := by
  have HN := Lib.hid (fun wx => isnan_any x wx)
  rw [hn] at HN
  clear hn
  go_enter Tryz.func20, Tryz.ntmps20
  go_wp2_with (go_at_call 22; refine (HN.out _).mono ?_; rintro e w' ⟨rfl, rfl⟩)
  go_ret2
  exact ⟨rfl, Below.refl _ _⟩
theorem text_inf (x : Nat) (w : World) (hx : x < 2 ^ 64) (hn : nanW x = false) (hi : infW x = true) : Calls Tryz.prog 20 #[.float .f64 x] w fun e w' => e = .returned (.tuple #[.string (tx []), errV 1]) ∧ Below w.heap.size w w' := by
  have HF := Lib.hid (fun wx => isinf_any x wx hx hn)
  rw [hi] at HF
  have HN := Lib.hid (fun wx => isnan_any x wx)
  rw [hn] at HN
  clear hn hi hx
  go_enter Tryz.func20, Tryz.ntmps20
  go_wp2_with (first | (go_at_call 22; refine (HN.out _).mono ?_; rintro e w' ⟨rfl, rfl⟩) | (go_at_call 23; refine (HF.out _).mono ?_; rintro e w' ⟨rfl, rfl⟩))
  go_ret2
  exact ⟨rfl, Below.refl _ _⟩
theorem itoa_0 : tx (Lib.itoa 0) = ⟨#[48]⟩ := by
  have : Lib.itoa 0 = [48] := by
    unfold Lib.itoa
    rw [if_neg (by decide)]
    show Lib.decDigits 0 = _
    rw [Lib.decDigits, dif_pos (by decide)]
    rfl
  rw [this]; rfl
set_option maxHeartbeats 4000000 in
theorem text_zero (w : World) (hts : NTabs w) : Calls Tryz.prog 20 #[.float .f64 0] w fun e w' => e = .returned (.tuple #[.string ⟨#[48]⟩, errV 0]) ∧ Below w.heap.size w w' := by
  have HT := Lib.hid (fun wx => trunc_any 0 wx (by decide))
  rw [show FloatKind.f64.encode ((FloatKind.f64.decode 0).integral .zero) = 0 by decide] at HT
  have HI := Lib.hid (fun wx => isinf_any 0 wx (by decide) (by decide))
  rw [show infW 0 = false by decide] at HI
  have HN := Lib.hid (fun wx => isnan_any 0 wx)
  rw [show nanW 0 = false by decide] at HN
  have HS := Lib.hid (fun wx => signbit_any 0 wx (by decide))
  rw [show negW 0 = false by decide] at HS
  have h0 : (ord 0 0 == some .eq) = true := by decide
  have g1 : (ord 0 negE == some .gt) = true := by decide
  have g2 : (ord 0 negE == some .eq) = false := by decide
  have g3 : (ord 0 posE == some .lt) = true := by decide
  have hcv := fun wx => conv_run 0 (by decide) (by decide) wx
  rw [show nZ 0 = 0 by decide] at hcv
  have HFI := Lib.hid (Tryz.strconv_FormatInt_10 0 (by decide) (by decide) w hts.u64)
  clear hts
  go_enter Tryz.func20, Tryz.ntmps20
  go_wp2_with (first | (go_at_call 22; refine (HN.out _).mono ?_; rintro e w2 ⟨rfl, rfl⟩) | (go_at_call 23; refine (HI.out _).mono ?_; rintro e w3 ⟨rfl, rfl⟩) | (go_at_call 33; refine (HS.out _).mono ?_; rintro e w3 ⟨rfl, rfl⟩) | (go_at_call 34; refine (HT.out _).mono ?_; rintro e w3 ⟨rfl, rfl⟩) | (go_at_call 35; refine HFI.out.mono ?_; rintro e w2 ⟨rfl, k2, os2, rfl⟩))
  go_ret2
  exact ⟨by rw [← itoa_0]; rfl, below_grow _ _ _⟩
theorem ref_nan (x : Nat) (w : World) (hn : nanW x = true) : Calls Tryz.prog 21 #[.float .f64 x] w fun e w' => e = .returned (.tuple #[.string (tx []), .int .i64 1]) ∧ Below w.heap.size w w' := by
  have h : (ord x x != some .eq) = true := by rw [ord_def, order_nan1 x x hn]; rfl
  clear hn
  go_enter Tryz.func21, Tryz.ntmps21
  go_wp2_with fail
  go_ret2
  exact ⟨rfl, Below.refl _ _⟩
theorem inf_word (x : Nat) (hx : x < 2 ^ 64) (hi : infW x = true) : x = 9218868437227405312 ∨ x = 18442240474082181120 := by
  unfold infW rung infR at hi
  have := of_decide_eq_true hi
  omega
theorem ref_inf1 (w : World) : Calls Tryz.prog 21 #[.float .f64 9218868437227405312] w fun e w' => e = .returned (.tuple #[.string (tx []), .int .i64 1]) ∧ Below w.heap.size w w' := by
  have h : (ord 9218868437227405312 9218868437227405312 != some .eq) = false := by decide
  have h1 : (ord 9218868437227405312 9218868437227405311 == some .gt) = true := by decide
  go_enter Tryz.func21, Tryz.ntmps21
  go_wp2_with fail
  go_ret2
  exact ⟨rfl, Below.refl _ _⟩
theorem ref_inf2 (w : World) : Calls Tryz.prog 21 #[.float .f64 18442240474082181120] w fun e w' => e = .returned (.tuple #[.string (tx []), .int .i64 1]) ∧ Below w.heap.size w w' := by
  have h : (ord 18442240474082181120 18442240474082181120 != some .eq) = false := by decide
  have h1 : (ord 18442240474082181120 9218868437227405311 == some .gt) = false := by decide
  have h2 : (ord 18442240474082181120 18442240474082181119 == some .lt) = true := by decide
  go_enter Tryz.func21, Tryz.ntmps21
  go_wp2_with fail
  go_ret2
  exact ⟨rfl, Below.refl _ _⟩
theorem ref_zero (w : World) : Calls Tryz.prog 21 #[.float .f64 0] w fun e w' => e = .returned (.tuple #[.string ⟨#[48]⟩, .int .i64 0]) ∧ Below w.heap.size w w' := by
  have h : (ord 0 0 != some .eq) = false := by decide
  have h0 : (ord 0 0 == some .eq) = true := by decide
  have h1 : (ord 0 9218868437227405311 == some .gt) = false := by decide
  have h2 : (ord 0 18442240474082181119 == some .lt) = false := by decide
  have q1 := quo_zero
  have h3 : (ord 9218868437227405312 0 == some .lt) = false := by decide
  go_enter Tryz.func21, Tryz.ntmps21
  go_wp2_with fail
  go_ret2
  exact ⟨rfl, Below.refl _ _⟩
theorem ref_negz (w : World) : Calls Tryz.prog 21 #[.float .f64 9223372036854775808] w fun e w' => e = .returned (.tuple #[.string ⟨#[45, 48]⟩, .int .i64 0]) ∧ Below w.heap.size w w' := by
  have h : (ord 9223372036854775808 9223372036854775808 != some .eq) = false := by decide
  have h0 : (ord 9223372036854775808 0 == some .eq) = true := by decide
  have h1 : (ord 9223372036854775808 9218868437227405311 == some .gt) = false := by decide
  have h2 : (ord 9223372036854775808 18442240474082181119 == some .lt) = false := by decide
  have q1 := quo_negz
  have h3 : (ord 18442240474082181120 0 == some .lt) = true := by decide
  go_enter Tryz.func21, Tryz.ntmps21
  go_wp2_with fail
  go_ret2
  exact ⟨rfl, Below.refl _ _⟩
/-- Both texts are the same, whatever the float. -/
theorem both (x : Nat) (hx : x < 2 ^ 64) : ∃ (s : ByteArray) (k : Nat),
    (∀ w, NTabs w → PTab w → Calls Tryz.prog 20 #[.float .f64 x] w fun e w' => e = .returned (.tuple #[.string s, errV k]) ∧ Below w.heap.size w w') ∧
    (∀ w, NTabs w → PTab w → Calls Tryz.prog 21 #[.float .f64 x] w fun e w' => e = .returned (.tuple #[.string s, .int .i64 (k : Int)]) ∧ Below w.heap.size w w') := by
  cases hn : nanW x
  · cases hi : infW x
    · cases hz : zeroW x
      · have h1 : rung x < infR := by
          unfold nanW at hn; unfold infW at hi
          have := of_decide_eq_false hn; have := of_decide_eq_false hi
          omega
        have h0 : 0 < rung x := by unfold zeroW at hz; have := of_decide_eq_false hz; omega
        exact ⟨tx (txF x), 0, fun w h p => text_fin x w hx h0 h1 p h, fun w h p => ref_fin x w hx h0 h1 p h⟩
      · rcases zero_word x hx hz with rfl | rfl
        · exact ⟨⟨#[48]⟩, 0, fun w h _ => text_zero w h, fun w _ _ => ref_zero w⟩
        · exact ⟨⟨#[45, 48]⟩, 0, fun w _ _ => (text_negz w).mono (by rintro e w' ⟨rfl, rfl⟩; exact ⟨rfl, Below.refl _ _⟩), fun w _ _ => ref_negz w⟩
    · rcases inf_word x hx hi with rfl | rfl
      · exact ⟨tx [], 1, fun w _ _ => text_inf _ w hx hn hi, fun w _ _ => ref_inf1 w⟩
      · exact ⟨tx [], 1, fun w _ _ => text_inf _ w hx hn hi, fun w _ _ => ref_inf2 w⟩
  · exact ⟨tx [], 1, fun w _ _ => text_nan x w hn, fun w _ _ => ref_nan x w hn⟩
set_option maxHeartbeats 1000000 in
theorem tells_any (x : Nat) (w : World) (hx : x < 2 ^ 64) (ht : NTabs w ∧ PTab w) :
    Calls Tryz.prog 4 #[.int .u64 (x : Int)] w fun e w' => e = .returned (.bool true) ∧ Below w.heap.size w w' := by
  obtain ⟨s, k, h1, h2⟩ := both x hx
  have HA := Lib.hid (alive_any w ht.1)
  have f1 := frombits_run x
  have HT := Lib.hid ht
  have H1 := Lib.hid h1
  have H2 := Lib.hid h2
  clear ht h1 h2 hx
  go_enter Tryz.func4, Tryz.ntmps4
  go_wp2_with (go_at_call 8; refine HA.out.mono ?_; rintro e w2 ⟨rfl, hb2⟩)
  have HB2 := Lib.hid hb2
  refine (H1.out _ (HT.out.1.below HB2.out) (HT.out.2.below HB2.out)).mono ?_
  rintro e w3 ⟨rfl, hb3⟩
  have hb : Below w.heap.size w w3 := HB2.out.trans (hb3.mono HB2.out.size)
  have HB3 := Lib.hid hb
  clear hb hb2 hb3
  go_wp2_with fail
  refine (H2.out _ (HT.out.1.below HB3.out) (HT.out.2.below HB3.out)).mono ?_
  rintro e w4 ⟨rfl, hb4⟩
  have hb : Below w.heap.size w w4 := HB3.out.trans (hb4.mono HB3.out.size)
  have HB4 := Lib.hid hb
  clear hb hb4
  go_wp2_with (go_at_call 14; refine (num_any k _).mono ?_; rintro e w5 ⟨rfl, rfl⟩)
  go_ret
  exact ⟨rfl, HB4.out⟩
end Go.Proofs.YtfebfkbdbncihaaGreatDoor
