/- Contract of strings.IndexRune at the signs that have an escape of a letter: other signs. -/
import Derived.Test.YtanmkddmebhdpaaDoorUti
import Derived.Test.YtanmkddmebhdpaaDoorUtb
import Derived.Laws.Runes
import Derived.WalkMore
namespace Go.Proofs.YtanmkddmebhdpaaDoor
set_option maxRecDepth 20000
open Go.RowKit Go.Lib

theorem enc_str (c : Nat) (h : okc c) : Utf8.encode (c : Int) = ⟨(encB c).toArray⟩ := by
  have hv : Utf8.valid (c : Int) = true := by
    unfold okc at h
    unfold Utf8.valid
    simp only [Bool.or_eq_true, Bool.and_eq_true, decide_eq_true_eq]
    omega
  unfold Utf8.encode encB
  simp only [hv, if_true, Int.toNat_natCast]
  repeat' split
  all_goals first | rfl | omega
theorem high_none (u : UInt8) (h : 128 ≤ u.toNat) (k : Nat) : Lib.indexByte ((signsB.data.toList.drop k)) u = -1 := by
  have key : ∀ l : List UInt8, (∀ x ∈ l, x.toNat < 128) → Lib.indexByte l u = -1 := by
    intro l
    induction l with
    | nil => intro _; rfl
    | cons x l ih =>
      intro hx
      have h1 := hx x (by simp)
      have hne : (x == u) = false := by
        rw [beq_eq_false_iff_ne]
        rintro rfl
        omega
      unfold Lib.indexByte
      rw [ih (fun y hy => hx y (by simp [hy]))]
      simp [hne]
  refine key _ (fun x hx => ?_)
  have hx := List.mem_of_mem_drop hx
  have : x ∈ ([34, 92, 8, 12, 10, 13, 9] : List UInt8) := hx
  simp at this
  rcases this with rfl | rfl | rfl | rfl | rfl | rfl | rfl <;> decide
set_option maxHeartbeats 1000000 in
theorem validrune (c : Nat) (h : okc c) (w : World) : Calls Tryd.prog 43 #[.int .i32 (c : Int)] w fun e w' => e = .returned (.bool true) ∧ w' = w := by
  unfold okc at h
  by_cases h1 : c < 55296
  · have d1 : decide ((0 : Int) ≤ (c : Int)) = true := decide_eq_true (by omega)
    have d2 : decide ((c : Int) < 55296) = true := decide_eq_true (by omega)
    clear h h1
    go_enter Tryd.func43, Tryd.ntmps43
    go_wp2_with fail
    go_ret
    exact ⟨rfl, rfl⟩
  · have d1 : decide ((0 : Int) ≤ (c : Int)) = true := decide_eq_true (by omega)
    have d2 : decide ((c : Int) < 55296) = false := decide_eq_false (by omega)
    have d3 : decide (57343 < (c : Int)) = true := decide_eq_true (by omega)
    have d4 : decide ((c : Int) ≤ 1114111) = true := decide_eq_true (by omega)
    clear h h1
    go_enter Tryd.func43, Tryd.ntmps43
    go_wp2_with fail
    go_ret
    exact ⟨rfl, rfl⟩
set_option maxHeartbeats 2000000 in
theorem ixr_two (c : Nat) (w : World) (h : 128 ≤ c) (h2 : c < 2048) :
    Calls Tryd.prog 37 #[.string signsB, .int .i32 (c : Int)] w fun e w' => e = .returned (.int .i64 (-1)) ∧ Below w.heap.size w w' := by
  have hok : okc c := .inl (by omega)
  obtain ⟨u0, u1, hu, hu1⟩ : ∃ u0 u1 : UInt8, Utf8.encode (c : Int) = ⟨#[u0, u1]⟩ ∧ 128 ≤ u1.toNat := ⟨_, _, by rw [enc_str c hok]; unfold encB; rw [if_neg (by omega), if_pos h2], by rw [nb_toNat (by omega)]; omega⟩
  have d1 : decide ((0 : Int) ≤ (c : Int)) = true := decide_eq_true (by omega)
  have d2 : decide ((c : Int) < 128) = false := decide_eq_false (by omega)
  have d3 : ((c : Int) == 65533) = false := by rw [beq_eq_false_iff_ne]; omega
  have HV := Lib.hid (fun w => validrune c hok w)
  have hz : signsB.size = 7 := rfl
  have HI : RowKit.Hid (∀ w, Calls Tryd.prog 34 #[.string (signsB.extract 2 7), .int .u8 (u1.toNat : Int)] w fun e w' => e = .returned (.int .i64 (-1)) ∧ w' = w) := Lib.hid (fun w => by
    have h := ixb (signsB.extract 2 7) (u1.toNat : Int) w
    rw [ext_list, show (((signsB.data.toList.drop 2).take (7 - 2))) = signsB.data.toList.drop 2 from rfl, show ((u1.toNat : Int).toNat.toUInt8) = u1 by simp [Nat.toUInt8], high_none u1 hu1 2] at h
    exact h)
  have hb : ((signsB[1]'(by decide)).toNat : Int) = 92 := rfl
  have hq : ((92 : Int) != (u1.toNat : Int)) = true := by
    rw [bne_iff_ne]
    omega
  have hl : (⟨#[u0, u1]⟩ : ByteArray)[1]'(by show 1 < 2; decide) = u1 := rfl
  clear h h2 hok
  go_enter Tryd.func37, Tryd.ntmps37
  go_wp2_with fail
  refine (HV.out w).mono ?_
  rintro e wz ⟨rfl, rfl⟩
  go_wp2_with fail
  go_step3
  go_wp2_with fail
  go_loopw [9, 10] (fun i f wr => i = .int .i64 1 ∧ f = .int .i64 0 ∧ wr = wz) (fun _ _ _ => 0)
  case atStart => exact ⟨rfl, rfl, rfl⟩
  case round =>
    obtain ⟨rfl, rfl, rfl⟩ := hrel
    go_wp2_with fail
    go_step3
    go_wp2_with fail
    go_quiet (fail)
    have HB : RowKit.Hid (Below wr.heap.size wr (wr.drewN nq)) := Lib.hid (below_make (grown_drewN wr nq))
    generalize wr.drewN nq = w2 at HB ⊢
    go_wp2_with fail
    go_quiet (first | (go_at_call 34; exact Calls.quiet_of_same (HI.out _)))
    have HB2 : RowKit.Hid (Below wr.heap.size wr (w2.drewN nq)) := Lib.hid (HB.out.trans ((below_make (grown_drewN w2 nq)).mono HB.out.size))
    generalize w2.drewN nq = w3 at HB2 ⊢
    go_wp2_with fail
    rw [Exit.noGoto_ret]
    go_wp2_with fail
    rw [Exit.noGoto_ret]
    go_ret
    exact ⟨rfl, HB2.out⟩
set_option maxHeartbeats 2000000 in
theorem ixr_three (c : Nat) (w : World) (h : 2048 ≤ c) (h2 : c < 65536) (hok : okc c) (h3 : c ≠ 65533) :
    Calls Tryd.prog 37 #[.string signsB, .int .i32 (c : Int)] w fun e w' => e = .returned (.int .i64 (-1)) ∧ Below w.heap.size w w' := by
  obtain ⟨u0, u1, u2, hu, hu1⟩ : ∃ u0 u1 u2 : UInt8, Utf8.encode (c : Int) = ⟨#[u0, u1, u2]⟩ ∧ 128 ≤ u2.toNat := ⟨_, _, _, by rw [enc_str c hok]; unfold encB; rw [if_neg (by omega), if_neg (by omega), if_pos h2], by rw [nb_toNat (by omega)]; omega⟩
  have d1 : decide ((0 : Int) ≤ (c : Int)) = true := decide_eq_true (by omega)
  have d2 : decide ((c : Int) < 128) = false := decide_eq_false (by omega)
  have d3 : ((c : Int) == 65533) = false := by rw [beq_eq_false_iff_ne]; omega
  have HV := Lib.hid (fun w => validrune c hok w)
  have hz : signsB.size = 7 := rfl
  have HI : RowKit.Hid (∀ w, Calls Tryd.prog 34 #[.string (signsB.extract 3 7), .int .u8 (u2.toNat : Int)] w fun e w' => e = .returned (.int .i64 (-1)) ∧ w' = w) := Lib.hid (fun w => by
    have h := ixb (signsB.extract 3 7) (u2.toNat : Int) w
    rw [ext_list, show (((signsB.data.toList.drop 3).take (7 - 3))) = signsB.data.toList.drop 3 from rfl, show ((u2.toNat : Int).toNat.toUInt8) = u2 by simp [Nat.toUInt8], high_none u2 hu1 3] at h
    exact h)
  have hb : ((signsB[2]'(by decide)).toNat : Int) = 8 := rfl
  have hq : ((8 : Int) != (u2.toNat : Int)) = true := by
    rw [bne_iff_ne]
    omega
  have hl : (⟨#[u0, u1, u2]⟩ : ByteArray)[2]'(by show 2 < 3; decide) = u2 := rfl
  clear h h2 h3 hok
  go_enter Tryd.func37, Tryd.ntmps37
  go_wp2_with fail
  refine (HV.out w).mono ?_
  rintro e wz ⟨rfl, rfl⟩
  go_wp2_with fail
  go_step3
  go_wp2_with fail
  go_loopw [9, 10] (fun i f wr => i = .int .i64 2 ∧ f = .int .i64 0 ∧ wr = wz) (fun _ _ _ => 0)
  case atStart => exact ⟨rfl, rfl, rfl⟩
  case round =>
    obtain ⟨rfl, rfl, rfl⟩ := hrel
    go_wp2_with fail
    go_step3
    go_wp2_with fail
    go_quiet (fail)
    have HB : RowKit.Hid (Below wr.heap.size wr (wr.drewN nq)) := Lib.hid (below_make (grown_drewN wr nq))
    generalize wr.drewN nq = w2 at HB ⊢
    go_wp2_with fail
    go_quiet (first | (go_at_call 34; exact Calls.quiet_of_same (HI.out _)))
    have HB2 : RowKit.Hid (Below wr.heap.size wr (w2.drewN nq)) := Lib.hid (HB.out.trans ((below_make (grown_drewN w2 nq)).mono HB.out.size))
    generalize w2.drewN nq = w3 at HB2 ⊢
    go_wp2_with fail
    rw [Exit.noGoto_ret]
    go_wp2_with fail
    rw [Exit.noGoto_ret]
    go_ret
    exact ⟨rfl, HB2.out⟩
set_option maxHeartbeats 2000000 in
theorem ixr_four (c : Nat) (w : World) (h : 65536 ≤ c) (h2 : c ≤ 1114111) :
    Calls Tryd.prog 37 #[.string signsB, .int .i32 (c : Int)] w fun e w' => e = .returned (.int .i64 (-1)) ∧ Below w.heap.size w w' := by
  have hok : okc c := .inr ⟨by omega, h2⟩
  obtain ⟨u0, u1, u2, u3, hu, hu1⟩ : ∃ u0 u1 u2 u3 : UInt8, Utf8.encode (c : Int) = ⟨#[u0, u1, u2, u3]⟩ ∧ 128 ≤ u3.toNat := ⟨_, _, _, _, by rw [enc_str c hok]; unfold encB; rw [if_neg (by omega), if_neg (by omega), if_neg (by omega)], by rw [nb_toNat (by omega)]; omega⟩
  have d1 : decide ((0 : Int) ≤ (c : Int)) = true := decide_eq_true (by omega)
  have d2 : decide ((c : Int) < 128) = false := decide_eq_false (by omega)
  have d3 : ((c : Int) == 65533) = false := by rw [beq_eq_false_iff_ne]; omega
  have HV := Lib.hid (fun w => validrune c hok w)
  have hz : signsB.size = 7 := rfl
  have HI : RowKit.Hid (∀ w, Calls Tryd.prog 34 #[.string (signsB.extract 4 7), .int .u8 (u3.toNat : Int)] w fun e w' => e = .returned (.int .i64 (-1)) ∧ w' = w) := Lib.hid (fun w => by
    have h := ixb (signsB.extract 4 7) (u3.toNat : Int) w
    rw [ext_list, show (((signsB.data.toList.drop 4).take (7 - 4))) = signsB.data.toList.drop 4 from rfl, show ((u3.toNat : Int).toNat.toUInt8) = u3 by simp [Nat.toUInt8], high_none u3 hu1 4] at h
    exact h)
  have hb : ((signsB[3]'(by decide)).toNat : Int) = 12 := rfl
  have hq : ((12 : Int) != (u3.toNat : Int)) = true := by
    rw [bne_iff_ne]
    omega
  have hl : (⟨#[u0, u1, u2, u3]⟩ : ByteArray)[3]'(by show 3 < 4; decide) = u3 := rfl
  clear h h2 hok
  go_enter Tryd.func37, Tryd.ntmps37
  go_wp2_with fail
  refine (HV.out w).mono ?_
  rintro e wz ⟨rfl, rfl⟩
  go_wp2_with fail
  go_step3
  go_wp2_with fail
  go_loopw [9, 10] (fun i f wr => i = .int .i64 3 ∧ f = .int .i64 0 ∧ wr = wz) (fun _ _ _ => 0)
  case atStart => exact ⟨rfl, rfl, rfl⟩
  case round =>
    obtain ⟨rfl, rfl, rfl⟩ := hrel
    go_wp2_with fail
    go_step3
    go_wp2_with fail
    go_quiet (fail)
    have HB : RowKit.Hid (Below wr.heap.size wr (wr.drewN nq)) := Lib.hid (below_make (grown_drewN wr nq))
    generalize wr.drewN nq = w2 at HB ⊢
    go_wp2_with fail
    go_quiet (first | (go_at_call 34; exact Calls.quiet_of_same (HI.out _)))
    have HB2 : RowKit.Hid (Below wr.heap.size wr (w2.drewN nq)) := Lib.hid (HB.out.trans ((below_make (grown_drewN w2 nq)).mono HB.out.size))
    generalize w2.drewN nq = w3 at HB2 ⊢
    go_wp2_with fail
    rw [Exit.noGoto_ret]
    go_wp2_with fail
    rw [Exit.noGoto_ret]
    go_ret
    exact ⟨rfl, HB2.out⟩
theorem ixr (c : Nat) (hok : okc c) (w : World) :
    Calls Tryd.prog 37 #[.string signsB, .int .i32 (c : Int)] w fun e w' => e = .returned (.int .i64 (idxP c)) ∧ Below w.heap.size w w' := by
  by_cases h : c < 128
  · exact (ixr_low c w h).mono fun e w' ⟨e1, e2⟩ => ⟨e1, by rw [e2]; exact Below.refl _ _⟩
  · rw [idx_high c (by omega)]
    by_cases h3 : c = 65533
    · subst h3
      exact ixr_bad w
    · by_cases h2 : c < 2048
      · exact ixr_two c w (by omega) h2
      · by_cases h4 : c < 65536
        · exact ixr_three c w (by omega) h4 hok h3
        · exact ixr_four c w (by omega) (by unfold okc at hok; omega)
end Go.Proofs.YtanmkddmebhdpaaDoor
