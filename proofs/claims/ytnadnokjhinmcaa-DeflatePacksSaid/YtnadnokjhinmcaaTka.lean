/- Contracts of deflate's tokenAt and size. -/
import Derived.Test.YtnadnokjhinmcaaPla
namespace Go.Proofs.Ytnadnokjhinmcaa
open Go.RowKit

theorem size45 : (Try.prog.info? 45).map (·.size) = some 3 := by kernel_rfl
/-- A token's cells. -/
def tokR (a : Tk) : Array Value := #[U8 a.b, .int .i64 a.l, .int .i64 a.d]
theorem below_set1 {B : Nat} {w wr : World} (h : Below B w wr) (hB : B ≤ wr.heap.size) (g i : Nat) (hg : B ≤ g) (v : Value) : Below B w (wr.setCell ⟨g, i, none⟩ v) ∧ B ≤ (wr.setCell ⟨g, i, none⟩ v).heap.size :=
  ⟨h.grown (grown_setCell wr g i v) hB (fun j hj => by injection hj with hj; omega), Nat.le_trans hB (grown_setCell wr g i v).size⟩
theorem below_set3 {B : Nat} {w wr : World} (h : Below B w wr) (hB : B ≤ wr.heap.size) (g : Nat) (hg : B ≤ g) (a b c : Value) : Below B w (((wr.setCell ⟨g, 0, none⟩ a).setCell ⟨g, 1, none⟩ b).setCell ⟨g, 2, none⟩ c) := by
  have h1 := below_set1 h hB g 0 hg a
  have h2 := below_set1 h1.1 h1.2 g 1 hg b
  exact (below_set1 h2.1 h2.2 g 2 hg c).1
/-- max(1, x). -/
def szI (x : Int) : Int := if 1 < x then x else 1
set_option maxHeartbeats 1000000 in
theorem size_any (a : Tk) (w : World) : Calls Try.prog 19 #[tokV a] w fun e w' => e = .returned (.int .i64 (szI a.l)) ∧ Below w.heap.size w w' := by
  go_enter Try.func19, Try.ntmps19
  go_wp2_with fail
  all_goals
    go_ret
    refine ⟨?_, (Below.refl _ _).alloc (Nat.le_refl _) _⟩
    first
    | (rw [szI, if_pos (by omega)]; rfl)
    | (rw [szI, if_neg (by omega)]; rfl)
/-- What tokenAt's loop keeps. -/
structure TA (w wr : World) (l : List UInt8) (n q m p : Nat) (b : Nat × Nat) : Prop where
  row : Row wr (w.heap.size + 1) #[.int .u8 0, .int .i64 (b.1 : Int), .int .i64 (b.2 : Int)] 45
  res : Row wr w.heap.size #[.int .u8 0, .int .i64 0, .int .i64 0] 45
  below : Below w.heap.size w wr
  pq : p ≤ q
  bm : b.1 ≤ m
set_option maxHeartbeats 4000000 in
theorem tokenAt_any (A : Option Addr) (n c : Nat) (l : List UInt8) (H q : Nat) (w : World) (hr : Rd w w.heap.size A n (us l)) (hn : n ≤ 1000000) (hrow : Row w H (ib (alikeF l) n) 3) (hq : q < n) :
    Calls Try.prog 18 #[.slice A n c, .slice (some ⟨H, 0, none⟩) n n, .int .i64 (q : Int)] w fun e w' => e = .returned (tokV (tokAt l q)) ∧ Below w.heap.size w w' := by
  have HL : RowKit.Hid (l.length = n) := Lib.hid (by have := hr.1; rwa [us_length] at this)
  have HR := Lib.hid hr
  have HRow := Lib.hid hrow
  clear hr hrow
  obtain ⟨m, hm⟩ : ∃ m, mostF l.length q = m := ⟨_, rfl⟩
  obtain ⟨X, HX⟩ : ∃ X, RowKit.Hid (bestT l q = X) := ⟨_, Lib.hid rfl⟩
  have HM := Lib.hid hm
  rw [HL.out] at hm
  go_enter Try.func18, Try.ntmps18
  go_wp2_with fail
  all_goals first
    | rw [show (258 : Int) = (m : Int) by unfold mostF at hm; omega]
    | rw [show (n : Int) - (q : Int) = (m : Int) by unfold mostF at hm; omega]
  all_goals
    go_loopw [9, 18] (fun pl i wr => ∃ (k p : Nat) (b : Nat × Nat), k ≤ 64 ∧ pl = .int .i64 (p : Int) ∧ i = .int .i64 (k : Int) ∧ TA w wr l n q m p b ∧ chainT l q m (64 - k) p b = X) (fun _ i _ => 64 - (intOf i).toNat)
    case atStart =>
      have h1 : Row (w.alloc (.cells #[.int .u8 0, .int .i64 0, .int .i64 0] 45)) w.heap.size #[.int .u8 0, .int .i64 0, .int .i64 0] 45 := heap_alloc_new w _
      have h2 := h1.grown (World.grownBy_alloc _ (.cells #[.int .u8 0, .int .i64 0, .int .i64 0] 45) none) (by simp)
      have h3 := heap_alloc_new (w.alloc (.cells #[.int .u8 0, .int .i64 0, .int .i64 0] 45)) (.cells #[.int .u8 0, .int .i64 0, .int .i64 0] 45)
      exact ⟨0, q, (0, 0), by omega, rfl, rfl, ⟨by unfold Row; simpa using h3, h2, ((Below.refl _ _).alloc (Nat.le_refl _) _).alloc (by simp) _, Nat.le_refl _, Nat.zero_le _⟩, by rw [← HX.out, ← HM.out]; rfl⟩
    case round =>
      obtain ⟨k, p, b, hk, rfl, rfl, hI, hch⟩ := hrel
      have HI := Lib.hid hI
      have HC := Lib.hid hch
      have hpq := hI.pq
      have hbm := hI.bm
      have cl : wr.cell? ⟨w.heap.size + 1, 1, none⟩ = some (.int .i64 (b.1 : Int)) := hI.row.cell 1
      have cl0 : wr.cell? ⟨w.heap.size + 1, 0, none⟩ = some (.int .u8 0) := hI.row.cell 0
      have cl2 : wr.cell? ⟨w.heap.size + 1, 2, none⟩ = some (.int .i64 (b.2 : Int)) := hI.row.cell 2
      have cp : wr.cell? ⟨H, p, none⟩ = some (.int .i64 (alikeF l p)) := by rw [← Row.ib (HRow.out.below hI.below HRow.out.lt) (show p < n by omega)]
      have cr0 : wr.cell? ⟨w.heap.size, 0, none⟩ = some (.int .u8 0) := hI.res.cell 0
      have cr1 : wr.cell? ⟨w.heap.size, 1, none⟩ = some (.int .i64 0) := hI.res.cell 1
      have cr2 : wr.cell? ⟨w.heap.size, 2, none⟩ = some (.int .i64 0) := hI.res.cell 2
      have fr0 := hI.res.thawed 0
      have fr1 := hI.res.thawed 1
      have fr2 := hI.res.thawed 2
      obtain ⟨g, o, rfl, hg, hc⟩ := (HR.out.below hI.below).byte hq
      have ct := hc q hq
      have hpn : p < n := by omega
      clear hI hch hc
      by_cases hk64 : k < 64
      · have d1 : decide ((k : Int) < 64) = true := decide_eq_true (by omega)
        have HC2 : RowKit.Hid (chainT l q m ((64 - (k + 1)) + 1) p b = X) := Lib.hid (by rw [← HC.out]; congr 1; omega)
        cases hpv : prevP l p with
        | none =>
          have ha : alikeF l p = -1 := by unfold alikeF; rw [hpv]
          rw [ha] at cp
          have HXB : RowKit.Hid (b = X) := Lib.hid (by rw [← HC2.out, chainT, hpv])
          clear ha hpv HC HC2
          have HT : RowKit.Hid (tokAt l q = tokF l q b) := Lib.hid (by unfold tokAt; rw [HX.out, ← HXB.out])
          by_cases hb0 : b.1 = 0
          · have e1 : ((b.1 : Int) == 0) = true := by rw [hb0]; rfl
            have HT2 : RowKit.Hid (tokAt l q = ⟨l.getD q 0, 0, 0⟩) := Lib.hid (by rw [HT.out]; unfold tokF; rw [if_pos hb0])
            clear HT
            go_wp2_with fail
            have hrow2 := ((HI.out.res.set 0 (U8 (l.getD q 0))).set 1 (.int .i64 0)).set 2 (.int .i64 0)
            refine bodyPost_ret (results_cell_row rfl _ _ w.heap.size 45 _ (0, 0) _ rfl hrow2 Try.underlying45 rfl size45) rfl ?_
            exact ⟨by rw [HT2.out]; rfl, (below_set3 HI.out.below HI.out.below.size w.heap.size (Nat.le_refl _) _ _ _)⟩
          · have e1 : ((b.1 : Int) == 0) = false := by rw [beq_eq_false_iff_ne]; omega
            have HT2 : RowKit.Hid (tokAt l q = ⟨0, (b.1 : Int), (b.2 : Int)⟩) := Lib.hid (by rw [HT.out]; unfold tokF; rw [if_neg hb0])
            clear HT
            go_wp2_with fail
            have hrow2 := ((HI.out.res.set 0 (.int .u8 0)).set 1 (.int .i64 (b.1 : Int))).set 2 (.int .i64 (b.2 : Int))
            refine bodyPost_ret (results_cell_row rfl _ _ w.heap.size 45 _ (0, 0) _ rfl hrow2 Try.underlying45 rfl size45) rfl ?_
            exact ⟨by rw [HT2.out]; rfl, (below_set3 HI.out.below HI.out.below.size w.heap.size (Nat.le_refl _) _ _ _)⟩
        | some p2 =>
          have ha : alikeF l p = (p2 : Int) := by unfold alikeF; rw [hpv]
          rw [ha] at cp
          have hp2 : p2 < p := by
            unfold prevP at hpv
            split at hpv
            · exact (newest_some hpv).1
            · cases hpv
          have HC3 : RowKit.Hid ((if 32768 < q - p2 ∨ b.1 = m then b else chainT l q m (64 - (k + 1)) p2 (if b.1 < mlen l p2 q m then (mlen l p2 q m, q - p2) else b)) = X) := Lib.hid (by rw [← HC2.out, chainT, hpv])
          have d2 : ((p2 : Int) == -1) = false := by rw [beq_eq_false_iff_ne]; omega
          clear ha hpv HC HC2
          by_cases hf : 32768 < q - p2
          · have d3 : decide (32768 < (q : Int) - (p2 : Int)) = true := decide_eq_true (by omega)
            have HXB : RowKit.Hid (b = X) := Lib.hid (by rw [← HC3.out, if_pos (.inl hf)])
            clear HC3
            have HT : RowKit.Hid (tokAt l q = tokF l q b) := Lib.hid (by unfold tokAt; rw [HX.out, ← HXB.out])
            by_cases hb0 : b.1 = 0
            · have e1 : ((b.1 : Int) == 0) = true := by rw [hb0]; rfl
              have HT2 : RowKit.Hid (tokAt l q = ⟨l.getD q 0, 0, 0⟩) := Lib.hid (by rw [HT.out]; unfold tokF; rw [if_pos hb0])
              clear HT
              go_wp2_with fail
              have hrow2 := ((HI.out.res.set 0 (U8 (l.getD q 0))).set 1 (.int .i64 0)).set 2 (.int .i64 0)
              refine bodyPost_ret (results_cell_row rfl _ _ w.heap.size 45 _ (0, 0) _ rfl hrow2 Try.underlying45 rfl size45) rfl ?_
              exact ⟨by rw [HT2.out]; rfl, (below_set3 HI.out.below HI.out.below.size w.heap.size (Nat.le_refl _) _ _ _)⟩
            · have e1 : ((b.1 : Int) == 0) = false := by rw [beq_eq_false_iff_ne]; omega
              have HT2 : RowKit.Hid (tokAt l q = ⟨0, (b.1 : Int), (b.2 : Int)⟩) := Lib.hid (by rw [HT.out]; unfold tokF; rw [if_neg hb0])
              clear HT
              go_wp2_with fail
              have hrow2 := ((HI.out.res.set 0 (.int .u8 0)).set 1 (.int .i64 (b.1 : Int))).set 2 (.int .i64 (b.2 : Int))
              refine bodyPost_ret (results_cell_row rfl _ _ w.heap.size 45 _ (0, 0) _ rfl hrow2 Try.underlying45 rfl size45) rfl ?_
              exact ⟨by rw [HT2.out]; rfl, (below_set3 HI.out.below HI.out.below.size w.heap.size (Nat.le_refl _) _ _ _)⟩
          · have d3 : decide (32768 < (q : Int) - (p2 : Int)) = false := decide_eq_false (by omega)
            by_cases hbf : b.1 = m
            · have d4 : ((b.1 : Int) == (m : Int)) = true := by rw [hbf]; simp
              have HXB : RowKit.Hid (b = X) := Lib.hid (by rw [← HC3.out, if_pos (.inr hbf)])
              clear HC3 hbf
              have HT : RowKit.Hid (tokAt l q = tokF l q b) := Lib.hid (by unfold tokAt; rw [HX.out, ← HXB.out])
              by_cases hb0 : b.1 = 0
              · have e1 : ((b.1 : Int) == 0) = true := by rw [hb0]; rfl
                have HT2 : RowKit.Hid (tokAt l q = ⟨l.getD q 0, 0, 0⟩) := Lib.hid (by rw [HT.out]; unfold tokF; rw [if_pos hb0])
                clear HT
                go_wp2_with fail
                have hrow2 := ((HI.out.res.set 0 (U8 (l.getD q 0))).set 1 (.int .i64 0)).set 2 (.int .i64 0)
                refine bodyPost_ret (results_cell_row rfl _ _ w.heap.size 45 _ (0, 0) _ rfl hrow2 Try.underlying45 rfl size45) rfl ?_
                exact ⟨by rw [HT2.out]; rfl, (below_set3 HI.out.below HI.out.below.size w.heap.size (Nat.le_refl _) _ _ _)⟩
              · have e1 : ((b.1 : Int) == 0) = false := by rw [beq_eq_false_iff_ne]; omega
                have HT2 : RowKit.Hid (tokAt l q = ⟨0, (b.1 : Int), (b.2 : Int)⟩) := Lib.hid (by rw [HT.out]; unfold tokF; rw [if_neg hb0])
                clear HT
                go_wp2_with fail
                have hrow2 := ((HI.out.res.set 0 (.int .u8 0)).set 1 (.int .i64 (b.1 : Int))).set 2 (.int .i64 (b.2 : Int))
                refine bodyPost_ret (results_cell_row rfl _ _ w.heap.size 45 _ (0, 0) _ rfl hrow2 Try.underlying45 rfl size45) rfl ?_
                exact ⟨by rw [HT2.out]; rfl, (below_set3 HI.out.below HI.out.below.size w.heap.size (Nat.le_refl _) _ _ _)⟩
            · have d4 : ((b.1 : Int) == (m : Int)) = false := by rw [beq_eq_false_iff_ne]; omega
              have HC4 : RowKit.Hid (chainT l q m (64 - (k + 1)) p2 (if b.1 < mlen l p2 q m then (mlen l p2 q m, q - p2) else b) = X) := Lib.hid (by rw [← HC3.out, if_neg (show ¬ (32768 < q - p2 ∨ b.1 = m) by omega)])
              have HMT := Lib.hid (matched_any (some ⟨g, o, none⟩) n c l p2 q m wr ((HR.out.below HI.out.below).more HI.out.below.size) (by unfold mostF at hm; omega) (by unfold mostF at hm; omega) hn)
              have HML := Lib.hid (mlen_le l p2 q m)
              clear HC3
              obtain ⟨y, HY⟩ : ∃ y, RowKit.Hid (mlen l p2 q m = y) := ⟨_, Lib.hid rfl⟩
              rw [HY.out] at HMT HC4 HML
              go_wp2_with fail
              refine HMT.out.mono ?_
              rintro e w2 ⟨rfl, s, hw2⟩
              have HR1 : RowKit.Hid (Row w2 (w.heap.size + 1) #[.int .u8 0, .int .i64 (b.1 : Int), .int .i64 (b.2 : Int)] 45) := Lib.hid (by subst hw2; exact HI.out.row)
              have HR0 : RowKit.Hid (Row w2 w.heap.size #[.int .u8 0, .int .i64 0, .int .i64 0] 45) := Lib.hid (by subst hw2; exact HI.out.res)
              have HB2 : RowKit.Hid (Below w.heap.size w w2) := Lib.hid (by subst hw2; exact HI.out.below.trans ((below_make (grown_drewN wr s)).mono HI.out.below.size))
              have cm : w2.cell? ⟨w.heap.size + 1, 1, none⟩ = some (.int .i64 (b.1 : Int)) := HR1.out.cell 1
              have cm0 : w2.cell? ⟨w.heap.size + 1, 0, none⟩ = some (.int .u8 0) := HR1.out.cell 0
              have cm2 : w2.cell? ⟨w.heap.size + 1, 2, none⟩ = some (.int .i64 (b.2 : Int)) := HR1.out.cell 2
              have fm0 := HR1.out.thawed 0
              have fm1 := HR1.out.thawed 1
              have fm2 := HR1.out.thawed 2
              clear hw2 HMT cl cl0 cl2 cp cr0 cr1 cr2 fr0 fr1 fr2 ct HI
              by_cases hy : b.1 < y
              · have d5 : decide ((b.1 : Int) < (y : Int)) = true := decide_eq_true (by omega)
                go_wp2_with fail
                go_roundw
                case rel =>
                  have hrow2 := ((HR1.out.set 0 (.int .u8 0)).set 1 (.int .i64 (y : Int))).set 2 (.int .i64 ((q : Int) - (p2 : Int)))
                  refine ⟨k + 1, p2, (y, q - p2), by omega, rfl, by simp, ⟨?_, ?_, ?_, by omega, HML.out⟩, by rw [← HC4.out, if_pos hy]⟩
                  · have e9 : (q : Int) - (p2 : Int) = ((q - p2 : Nat) : Int) := by omega
                    rw [e9] at hrow2 ⊢
                    exact hrow2
                  · exact ((HR0.out.other (by omega) _ _).other (by omega) _ _).other (by omega) _ _
                  · exact below_set3 HB2.out HB2.out.size (w.heap.size + 1) (by omega) _ _ _
                case measure => simp [intOf]; omega
              · have d5 : decide ((b.1 : Int) < (y : Int)) = false := decide_eq_false (by omega)
                go_wp2_with fail
                go_roundw
                case rel => exact ⟨k + 1, p2, b, by omega, rfl, by simp, ⟨HR1.out, HR0.out, HB2.out, by omega, hbm⟩, by rw [← HC4.out, if_neg hy]⟩
                case measure => simp [intOf]; omega
      · obtain rfl : k = 64 := by omega
        have d1 : decide ((64 : Int) < 64) = false := rfl
        have HXB : RowKit.Hid (b = X) := Lib.hid (by rw [← HC.out]; rfl)
        clear HC
        have HT : RowKit.Hid (tokAt l q = tokF l q b) := Lib.hid (by unfold tokAt; rw [HX.out, ← HXB.out])
        by_cases hb0 : b.1 = 0
        · have e1 : ((b.1 : Int) == 0) = true := by rw [hb0]; rfl
          have HT2 : RowKit.Hid (tokAt l q = ⟨l.getD q 0, 0, 0⟩) := Lib.hid (by rw [HT.out]; unfold tokF; rw [if_pos hb0])
          clear HT
          go_wp2_with fail
          have hrow2 := ((HI.out.res.set 0 (U8 (l.getD q 0))).set 1 (.int .i64 0)).set 2 (.int .i64 0)
          refine bodyPost_ret (results_cell_row rfl _ _ w.heap.size 45 _ (0, 0) _ rfl hrow2 Try.underlying45 rfl size45) rfl ?_
          exact ⟨by rw [HT2.out]; rfl, (below_set3 HI.out.below HI.out.below.size w.heap.size (Nat.le_refl _) _ _ _)⟩
        · have e1 : ((b.1 : Int) == 0) = false := by rw [beq_eq_false_iff_ne]; omega
          have HT2 : RowKit.Hid (tokAt l q = ⟨0, (b.1 : Int), (b.2 : Int)⟩) := Lib.hid (by rw [HT.out]; unfold tokF; rw [if_neg hb0])
          clear HT
          go_wp2_with fail
          have hrow2 := ((HI.out.res.set 0 (.int .u8 0)).set 1 (.int .i64 (b.1 : Int))).set 2 (.int .i64 (b.2 : Int))
          refine bodyPost_ret (results_cell_row rfl _ _ w.heap.size 45 _ (0, 0) _ rfl hrow2 Try.underlying45 rfl size45) rfl ?_
          exact ⟨by rw [HT2.out]; rfl, (below_set3 HI.out.below HI.out.below.size w.heap.size (Nat.le_refl _) _ _ _)⟩
end Go.Proofs.Ytnadnokjhinmcaa
