
/- Contract of the reference's Fixed. -/
import Derived.Test.YtnadnokjhinmcaaFix
namespace Go.Proofs.Ytnadnokjhinmcaa
open Go.RowKit

/-- Within the reference's fixed lengths. -/
structure RFI (w wr : World) (p q k : Nat) : Prop where
  rp : Row wr p (ia (upTo fixL k) 288) 3
  rq : Row wr q (ia (upTo (fun _ => 5) (min k 30)) 30) 3
  below : Below w.heap.size w wr
  ne : p ≠ q
  lp : w.heap.size ≤ p
  lq : w.heap.size ≤ q
/-- The same with the letter's length laid, and the distance's not yet. -/
structure RFH (w wr : World) (p q k : Nat) : Prop where
  rp : Row wr p (ia (upTo fixL (k + 1)) 288) 3
  rq : Row wr q (ia (upTo (fun _ => 5) (min k 30)) 30) 3
  below : Below w.heap.size w wr
  ne : p ≠ q
  lp : w.heap.size ≤ p
  lq : w.heap.size ≤ q
theorem RFI.setP {w wr : World} {p q k : Nat} (h : RFI w wr p q k) (v : Nat) (hv : fixL k = v) : RFH w (wr.setCell ⟨p, k, none⟩ (.int .i64 (v : Int))) p q k :=
  ⟨by rw [upTo_more, hv]; exact h.rp.iaSet k v _ rfl, h.rq.other h.ne.symm _ _, h.below.grown (grown_setCell _ _ _ _) h.below.size (fun j e => by injection e with e; have := h.lp; omega), h.ne, h.lp, h.lq⟩
theorem upd_twice (f : Nat → Nat) (k u v : Nat) : upd (upd f k u) k v = upd f k v := by
  funext j
  by_cases hj : j = k
  · subst hj; rw [upd_same, upd_same]
  · rw [upd_ne _ _ hj, upd_ne _ _ hj, upd_ne _ _ hj]
theorem RFI.setP2 {w wr : World} {p q k : Nat} (h : RFI w wr p q k) (u v : Nat) (hv : fixL k = v) : RFH w ((wr.setCell ⟨p, k, none⟩ (.int .i64 (u : Int))).setCell ⟨p, k, none⟩ (.int .i64 (v : Int))) p q k :=
  ⟨by rw [upTo_more, hv, ← upd_twice _ k u v]; exact (h.rp.iaSet k u _ rfl).iaSet k v _ rfl, (h.rq.other h.ne.symm _ _).other h.ne.symm _ _,
    (h.below.grown (grown_setCell _ _ _ _) h.below.size (fun j e => by injection e with e; have := h.lp; omega)).grown (grown_setCell _ _ _ _) (by have := h.below.size; simpa [World.setCell] using this) (fun j e => by injection e with e; have := h.lp; omega), h.ne, h.lp, h.lq⟩
theorem RFH.setQ {w wr : World} {p q k : Nat} (h : RFH w wr p q k) (hk : k < 30) : RFI w (wr.setCell ⟨q, k, none⟩ (.int .i64 5)) p q (k + 1) :=
  ⟨h.rp.other h.ne _ _, by
    have := h.rq.iaSet k 5 5 rfl
    rw [Nat.min_eq_left (by omega)] at this
    rw [Nat.min_eq_left (by omega), upTo_more]; exact this, h.below.grown (grown_setCell _ _ _ _) h.below.size (fun j e => by injection e with e; have := h.lq; omega), h.ne, h.lp, h.lq⟩
theorem RFH.noQ {w wr : World} {p q k : Nat} (h : RFH w wr p q k) (hk : ¬ k < 30) : RFI w wr p q (k + 1) :=
  ⟨h.rp, by have := h.rq; rw [Nat.min_eq_right (by omega)] at this; rw [Nat.min_eq_right (by omega)]; exact this, h.below, h.ne, h.lp, h.lq⟩
theorem RFI.done {w wr : World} {p q : Nat} (h : RFI w wr p q 288) : FixM w (.returned (.tuple #[.slice (some ⟨p, 0, none⟩) 288 288, .slice (some ⟨q, 0, none⟩) 30 30])) wr :=
  ⟨p, q, rfl, by have := h.rp; rwa [upTo_all] at this, by have := h.rq; rw [Nat.min_eq_right (by omega), upTo_all] at this; exact this, h.below, h.lp, h.lq, h.ne⟩
theorem two_rows (w : World) (cs cs' : Array Value) (t t' : TypeId) : Row (((w.alloc (.cells cs t)).alloc (.cells cs' t')).drew) w.heap.size cs t ∧ Row (((w.alloc (.cells cs t)).alloc (.cells cs' t')).drew) (w.heap.size + 1) cs' t' ∧ Below w.heap.size w (((w.alloc (.cells cs t)).alloc (.cells cs' t')).drew) := by
  have h1 := (Row.new w cs t).grown (World.grownBy_alloc _ (.cells cs' t') none) (by simp)
  have h2 := Row.new (w.alloc (.cells cs t)) cs' t'
  rw [show (w.alloc (.cells cs t)).heap.size = w.heap.size + 1 by simp] at h2
  have h3 : Below w.heap.size w ((w.alloc (.cells cs t)).alloc (.cells cs' t')) := ((Below.refl _ w).alloc (Nat.le_refl _) _).alloc (by simp) _
  exact ⟨h1, h2, below_drew h3⟩
theorem rfi_start0 (w : World) : RFI w (((w.alloc (.cells (ia (fun _ => 0) 288) 3)).alloc (.cells (ia (fun _ => 0) 30) 3)).drew) w.heap.size (w.heap.size + 1) 0 := by
  obtain ⟨h1, h2, h3⟩ := two_rows w (ia (fun _ => 0) 288) (ia (fun _ => 0) 30) 3 3
  exact ⟨by rw [upTo_zero]; exact h1, by rw [Nat.min_eq_left (by omega), upTo_zero]; exact h2, h3, by omega, by omega, by omega⟩
theorem rfi_start1 (w : World) : RFI w (((w.alloc (.cells (ia (fun _ => 0) 30) 3)).alloc (.cells (ia (fun _ => 0) 288) 3)).drew) (w.heap.size + 1) w.heap.size 0 := by
  obtain ⟨h1, h2, h3⟩ := two_rows w (ia (fun _ => 0) 30) (ia (fun _ => 0) 288) 3 3
  exact ⟨by rw [upTo_zero]; exact h2, by rw [Nat.min_eq_left (by omega), upTo_zero]; exact h1, h3, by omega, by omega, by omega⟩

set_option maxHeartbeats 2000000 in
theorem rfixed_any (w : World) : Calls Try.prog 32 #[] w (FixM w) := by
  have hm1 : ∀ w, (Instr.makeSlice 46 (.int .i64 288) (.int .i64 288)).run Try.prog w = .ok (.slice (some ⟨w.heap.size, 0, none⟩) 288 288) (w.alloc (.cells (ia (fun _ => 0) 288) 3)) := makeI_run 288 (by decide)
  have hm2 : ∀ w, (Instr.makeSlice 46 (.int .i64 30) (.int .i64 30)).run Try.prog w = .ok (.slice (some ⟨w.heap.size, 0, none⟩) 30 30) (w.alloc (.cells (ia (fun _ => 0) 30) 3)) := makeI_run 30 (by decide)
  have HS0 := Lib.hid (rfi_start0 w)
  have HS1 := Lib.hid (rfi_start1 w)
  go_enter Try.func32, Try.ntmps32
  go_wp2_with fail
  go_region
  · generalize ((w.alloc (.cells (ia (fun _ => 0) 288) 3)).alloc (.cells (ia (fun _ => 0) 30) 3)).drew = w2 at HS0 ⊢
    generalize hH : w.heap.size + 1 = H at HS0 ⊢
    generalize hG : w.heap.size = G at HS0 ⊢
    have HN := Lib.hid HS0.out.ne
    have HI := HS0
    clear hm1 hm2 HS0 HS1 hH hG
    go_wp2_with fail
    go_loopw [4] (fun i wr => ∃ k : Nat, k ≤ 288 ∧ i = .int .i64 (k : Int) ∧ RFI w wr G H k) (fun i _ => 288 - (intOf i).toNat)
    case atStart => exact ⟨0, by omega, rfl, HI.out⟩
    case round =>
      clear HI
      obtain ⟨k, hk, rfl, hI⟩ := hrel
      have HI := Lib.hid hI
      clear hI
      by_cases hk2 : k < 288
      · have hd : decide ((k : Int) < 288) = true := decide_eq_true (by omega)
        have c1 := HI.out.rp.ia hk2
        have c2 := HI.out.rp.thawed k
        generalize upTo fixL k k = y at c1
        by_cases h30 : k < 30
        · have c3 := HI.out.rq.ia h30
          have c4 := HI.out.rq.thawed k
          generalize upTo (fun _ => 5) (min k 30) k = y2 at c3
          have d1 : decide ((144 : Int) ≤ (k : Int)) = false := decide_eq_false (by omega)
          have d2 : decide ((256 : Int) ≤ (k : Int)) = false := decide_eq_false (by omega)
          have d3 : decide ((k : Int) < 30) = true := decide_eq_true (by omega)
          have hne1 : G ≠ H := HN.out
          have hne2 : H ≠ G := HN.out.symm
          have n1 : ¬ 144 ≤ k := by omega
          have n2 : ¬ 256 ≤ k := by omega
          have HX := Lib.hid ((HI.out.setP 8 (by unfold fixL; rw [if_pos (by omega)])).setQ h30)
          go_wp2_with fail
          go_roundw
          case rel => exact ⟨k + 1, by omega, by simp, HX.out⟩
          case measure => simp [intOf]; omega
        · have d3 : decide ((k : Int) < 30) = false := decide_eq_false (by omega)
          by_cases h144 : k < 144
          · have d1 : decide ((144 : Int) ≤ (k : Int)) = false := decide_eq_false (by omega)
            have d2 : decide ((256 : Int) ≤ (k : Int)) = false := decide_eq_false (by omega)
            have n1 : ¬ 144 ≤ k := by omega
            have n2 : ¬ 256 ≤ k := by omega
            have HX := Lib.hid ((HI.out.setP 8 (by unfold fixL; rw [if_pos (by omega)])).noQ h30)
            go_wp2_with fail
            go_roundw
            case rel => exact ⟨k + 1, by omega, by simp, HX.out⟩
            case measure => simp [intOf]; omega
          · have d1 : decide ((144 : Int) ≤ (k : Int)) = true := decide_eq_true (by omega)
            have n1 : 144 ≤ k := by omega
            by_cases h256 : k < 256
            · have d2 : decide ((k : Int) < 256) = true := decide_eq_true (by omega)
              have d4 : decide ((256 : Int) ≤ (k : Int)) = false := decide_eq_false (by omega)
              have n2 : ¬ 256 ≤ k := by omega
              have HX := Lib.hid ((HI.out.setP2 8 9 (by unfold fixL; rw [if_neg (by omega), if_pos (by omega)])).noQ h30)
              have HX2 := Lib.hid ((HI.out.setP 9 (by unfold fixL; rw [if_neg (by omega), if_pos (by omega)])).noQ h30)
              go_wp2_with fail
              go_roundw
              case rel => exact ⟨k + 1, by omega, by simp, by first | exact HX.out | exact HX2.out⟩
              case measure => simp [intOf]; omega
            · have d2 : decide ((k : Int) < 256) = false := decide_eq_false (by omega)
              have d4 : decide ((256 : Int) ≤ (k : Int)) = true := decide_eq_true (by omega)
              have n2 : 256 ≤ k := by omega
              by_cases h280 : k < 280
              · have d5 : decide ((k : Int) < 280) = true := decide_eq_true (by omega)
                have HX := Lib.hid ((HI.out.setP2 8 7 (by unfold fixL; rw [if_neg (by omega), if_neg (by omega), if_pos (by omega)])).noQ h30)
                have HX2 := Lib.hid ((HI.out.setP 7 (by unfold fixL; rw [if_neg (by omega), if_neg (by omega), if_pos (by omega)])).noQ h30)
                go_wp2_with fail
                go_roundw
                case rel => exact ⟨k + 1, by omega, by simp, by first | exact HX.out | exact HX2.out⟩
                case measure => simp [intOf]; omega
              · have d5 : decide ((k : Int) < 280) = false := decide_eq_false (by omega)
                have HX := Lib.hid ((HI.out.setP 8 (by unfold fixL; rw [if_neg (by omega), if_neg (by omega), if_neg (by omega)])).noQ h30)
                go_wp2_with fail
                go_roundw
                case rel => exact ⟨k + 1, by omega, by simp, HX.out⟩
                case measure => simp [intOf]; omega
      · obtain rfl : k = 288 := by omega
        have hd : decide (((288 : Nat) : Int) < 288) = false := rfl
        have HX := Lib.hid HI.out.done
        go_wp2_with fail
        go_ret2
        exact HX.out
  · generalize ((w.alloc (.cells (ia (fun _ => 0) 30) 3)).alloc (.cells (ia (fun _ => 0) 288) 3)).drew = w2 at HS1 ⊢
    generalize hH : w.heap.size + 1 = H at HS1 ⊢
    generalize hG : w.heap.size = G at HS1 ⊢
    have HN := Lib.hid HS1.out.ne
    have HI := HS1
    clear hm1 hm2 HS0 HS1 hH hG
    go_wp2_with fail
    go_loopw [4] (fun i wr => ∃ k : Nat, k ≤ 288 ∧ i = .int .i64 (k : Int) ∧ RFI w wr H G k) (fun i _ => 288 - (intOf i).toNat)
    case atStart => exact ⟨0, by omega, rfl, HI.out⟩
    case round =>
      clear HI
      obtain ⟨k, hk, rfl, hI⟩ := hrel
      have HI := Lib.hid hI
      clear hI
      by_cases hk2 : k < 288
      · have hd : decide ((k : Int) < 288) = true := decide_eq_true (by omega)
        have c1 := HI.out.rp.ia hk2
        have c2 := HI.out.rp.thawed k
        generalize upTo fixL k k = y at c1
        by_cases h30 : k < 30
        · have c3 := HI.out.rq.ia h30
          have c4 := HI.out.rq.thawed k
          generalize upTo (fun _ => 5) (min k 30) k = y2 at c3
          have d1 : decide ((144 : Int) ≤ (k : Int)) = false := decide_eq_false (by omega)
          have d2 : decide ((256 : Int) ≤ (k : Int)) = false := decide_eq_false (by omega)
          have d3 : decide ((k : Int) < 30) = true := decide_eq_true (by omega)
          have hne1 : H ≠ G := HN.out
          have hne2 : G ≠ H := HN.out.symm
          have n1 : ¬ 144 ≤ k := by omega
          have n2 : ¬ 256 ≤ k := by omega
          have HX := Lib.hid ((HI.out.setP 8 (by unfold fixL; rw [if_pos (by omega)])).setQ h30)
          go_wp2_with fail
          go_roundw
          case rel => exact ⟨k + 1, by omega, by simp, HX.out⟩
          case measure => simp [intOf]; omega
        · have d3 : decide ((k : Int) < 30) = false := decide_eq_false (by omega)
          by_cases h144 : k < 144
          · have d1 : decide ((144 : Int) ≤ (k : Int)) = false := decide_eq_false (by omega)
            have d2 : decide ((256 : Int) ≤ (k : Int)) = false := decide_eq_false (by omega)
            have n1 : ¬ 144 ≤ k := by omega
            have n2 : ¬ 256 ≤ k := by omega
            have HX := Lib.hid ((HI.out.setP 8 (by unfold fixL; rw [if_pos (by omega)])).noQ h30)
            go_wp2_with fail
            go_roundw
            case rel => exact ⟨k + 1, by omega, by simp, HX.out⟩
            case measure => simp [intOf]; omega
          · have d1 : decide ((144 : Int) ≤ (k : Int)) = true := decide_eq_true (by omega)
            have n1 : 144 ≤ k := by omega
            by_cases h256 : k < 256
            · have d2 : decide ((k : Int) < 256) = true := decide_eq_true (by omega)
              have d4 : decide ((256 : Int) ≤ (k : Int)) = false := decide_eq_false (by omega)
              have n2 : ¬ 256 ≤ k := by omega
              have HX := Lib.hid ((HI.out.setP2 8 9 (by unfold fixL; rw [if_neg (by omega), if_pos (by omega)])).noQ h30)
              have HX2 := Lib.hid ((HI.out.setP 9 (by unfold fixL; rw [if_neg (by omega), if_pos (by omega)])).noQ h30)
              go_wp2_with fail
              go_roundw
              case rel => exact ⟨k + 1, by omega, by simp, by first | exact HX.out | exact HX2.out⟩
              case measure => simp [intOf]; omega
            · have d2 : decide ((k : Int) < 256) = false := decide_eq_false (by omega)
              have d4 : decide ((256 : Int) ≤ (k : Int)) = true := decide_eq_true (by omega)
              have n2 : 256 ≤ k := by omega
              by_cases h280 : k < 280
              · have d5 : decide ((k : Int) < 280) = true := decide_eq_true (by omega)
                have HX := Lib.hid ((HI.out.setP2 8 7 (by unfold fixL; rw [if_neg (by omega), if_neg (by omega), if_pos (by omega)])).noQ h30)
                have HX2 := Lib.hid ((HI.out.setP 7 (by unfold fixL; rw [if_neg (by omega), if_neg (by omega), if_pos (by omega)])).noQ h30)
                go_wp2_with fail
                go_roundw
                case rel => exact ⟨k + 1, by omega, by simp, by first | exact HX.out | exact HX2.out⟩
                case measure => simp [intOf]; omega
              · have d5 : decide ((k : Int) < 280) = false := decide_eq_false (by omega)
                have HX := Lib.hid ((HI.out.setP 8 (by unfold fixL; rw [if_neg (by omega), if_neg (by omega), if_neg (by omega)])).noQ h30)
                go_wp2_with fail
                go_roundw
                case rel => exact ⟨k + 1, by omega, by simp, HX.out⟩
                case measure => simp [intOf]; omega
      · obtain rfl : k = 288 := by omega
        have hd : decide (((288 : Nat) : Int) < 288) = false := rfl
        have HX := Lib.hid HI.out.done
        go_wp2_with fail
        go_ret2
        exact HX.out
end Go.Proofs.Ytnadnokjhinmcaa
