
/- Contract of the reference's Tokens. -/
import Derived.Test.YtpnnlhegncbfaaaDoorDoc
namespace Go.Proofs.YtpnnlhegncbfaaaDoor
set_option maxRecDepth 20000
open Go.RowKit

theorem tokF_l (l : List UInt8) (q : Nat) (b : Nat × Nat) : (tokF l q b).l = (b.1 : Int) := by
  unfold tokF; split <;> simp_all
/-- A token's cells. -/
abbrev tokW (a : Tk) : Array Value := #[.int .u8 (a.b.toNat : Int), .int .i64 a.l, .int .i64 a.d]
/-- What the reference's loops keep. -/
structure RI (w wr : World) (u : Value) (D : List Tk) (G : Nat) (t : Tk) : Prop where
  di : DI w wr u D
  row : Row wr G (tokW t) 105
theorem RI.drewN {w wr : World} {u : Value} {D : List Tk} {G : Nat} {t : Tk} (h : RI w wr u D G t) (k : Nat) : RI w (wr.drewN k) u D G t :=
  ⟨h.di.grown (grown_drewN wr k), h.row.grown (grown_drewN wr k) (by simp)⟩
theorem RI.put {w wr : World} {u : Value} {D : List Tk} {G : Nat} {t : Tk} (h : RI w wr u D G t) (hu : ∀ b, u.ownBlock = some b → b ≠ G) (hG : w.heap.size ≤ G) (t' : Tk) :
    RI w (((wr.setCell ⟨G, 0, none⟩ (.int .u8 (t'.b.toNat : Int))).setCell ⟨G, 1, none⟩ (.int .i64 t'.l)).setCell ⟨G, 2, none⟩ (.int .i64 t'.d)) u D G t' := by
  have hg : wr.grownBy (((wr.setCell ⟨G, 0, none⟩ (.int .u8 (t'.b.toNat : Int))).setCell ⟨G, 1, none⟩ (.int .i64 t'.l)).setCell ⟨G, 2, none⟩ (.int .i64 t'.d)) (some G) :=
    ((grown_setCell wr G 0 _).trans (grown_setCell _ G 1 _)).trans (grown_setCell _ G 2 _)
  refine ⟨⟨World.ownsRow.kept h.di.own hg ?_, h.di.below.grown hg h.di.below.size (fun k hk => by injection hk with hk; omega)⟩, ?_⟩
  · cases hv : u.ownBlock with
    | none => exact .inl rfl
    | some b => exact .inr (fun e => by injection e with e; exact hu b hv e)
  · exact ((h.row.set 0 _).set 1 _).set 2 _
set_option maxHeartbeats 4000000 in
set_option maxRecDepth 10000 in
theorem rtokens_any (A : Option Addr) (n c : Nat) (l : List UInt8) (w : World) (hr : Rd w w.heap.size A n (us l)) (hn : n ≤ 1000000) :
    Calls Tryd.prog 64 #[.slice A n c] w fun e w' => ∃ v, e = .returned v ∧ OwnT 105 w' w.heap.size v (toksT l) ∧ Below w.heap.size w w' := by
  have HL : RowKit.Hid (l.length = n) := Lib.hid (by have := hr.1; rwa [us_length] at this)
  have HR := Lib.hid hr
  clear hr
  obtain ⟨X, HX⟩ : ∃ X, RowKit.Hid (toksT l = X) := ⟨_, Lib.hid rfl⟩
  rw [HX.out]
  go_enter Tryd.func64, Tryd.ntmps64
  go_wp2_with fail
  go_loopw [3, 4] (fun u i wr => ∃ (q : Nat) (D : List Tk), i = .int .i64 (q : Int) ∧ q ≤ n ∧ D.length ≤ q ∧ DI w wr u D ∧ D ++ toksF l (n - q) q = X) (fun _ i _ => n - (intOf i).toNat)
  case atStart => exact ⟨0, [], rfl, Nat.zero_le _, Nat.zero_le _, ⟨OwnT.lit0 105 w _ (Nat.le_refl _), (Below.refl _ _).alloc (Nat.le_refl _) _⟩, by rw [← HX.out]; unfold toksT; rw [HL.out]; rfl⟩
  case round =>
    obtain ⟨q, D, rfl, hq, hD, hI, hX⟩ := hrel
    have HI := Lib.hid hI
    have HXX := Lib.hid hX
    obtain ⟨Au, cu, rfl⟩ := hI.own.slice
    clear hI hX
    by_cases hlt : q < n
    · have d1 : decide ((q : Int) < (n : Int)) = true := decide_eq_true (by omega)
      have HX2 : RowKit.Hid (D ++ [tokAt l q] ++ toksF l (n - (q + stepT l q)) (q + stepT l q) = X) := Lib.hid (by
        rw [← HXX.out, show n - q = (n - q - 1) + 1 by omega, toksF, if_pos (by rw [HL.out]; exact hlt), List.append_assoc, List.singleton_append]
        have h1 : 1 ≤ stepT l q := Nat.le_max_left ..
        rw [toksF_more (F := n - (q + stepT l q)) (G := n - q - 1) (by rw [HL.out]; omega) (by rw [HL.out]; omega)])
      have HST : RowKit.Hid (1 ≤ stepT l q ∧ q + stepT l q ≤ n) := Lib.hid ⟨Nat.le_max_left .., by
        have h1 := best_good l q
        have h2 : mostF l.length q = min 258 (n - q) := by unfold mostF; rw [HL.out]
        unfold stepT
        omega⟩
      have HSB : RowKit.Hid (stepT l q = max 1 (bestT l q).1) := Lib.hid rfl
      obtain ⟨m, hm⟩ : ∃ m, mostF l.length q = m := ⟨_, rfl⟩
      obtain ⟨Y, HY⟩ : ∃ Y, RowKit.Hid (bestT l q = Y) := ⟨_, Lib.hid rfl⟩
      have HM := Lib.hid hm
      rw [HL.out] at hm
      have HLK : RowKit.Hid (lookR l q m q 0 (0, 0) = Y) := Lib.hid (by rw [← HY.out, best_look, HM.out])
      have HTK : RowKit.Hid (tokAt l q = tokF l q Y) := Lib.hid (by unfold tokAt; rw [HY.out])
      have hmd : m = min 258 (n - q) := by rw [← hm]; rfl
      have HMD := Lib.hid hmd
      have hm258 : m ≤ 258 := by omega
      have hqm : q + m ≤ n := by omega
      rw [HY.out] at HSB
      generalize stepT l q = st at HX2 HST HSB
      rw [HTK.out] at HX2
      clear HXX HTK HY HM hm hmd
      obtain ⟨g, oo, rfl, hg, hc⟩ := (HR.out.below HI.out.below).byte hlt
      have ct := hc q hlt
      obtain ⟨x0, hx0⟩ : ∃ x, l.getD q 0 = x := ⟨_, rfl⟩
      have HX0 := Lib.hid hx0
      rw [hx0] at ct
      have HC : RowKit.Hid (∀ wx : World, Below w.heap.size w wx → ∀ j, j < n → wx.cell? ⟨g, oo + j, none⟩ = some (.int .u8 ((l.getD j 0).toNat : Int))) := Lib.hid (fun wx hb j hj => by
        obtain ⟨g', o', he, _, h⟩ := (HR.out.below hb).byte hj
        injection he with he
        injection he with e1 e2
        subst e1 e2
        exact h j hj)
      have HG0 : RowKit.Hid (∀ b, (Value.slice Au D.length cu).ownBlock = some b → b ≠ wr.heap.size) := Lib.hid (fun b hb => by have := (World.ownsRow.lt HI.out.own _ hb).2; omega)
      have HGW : RowKit.Hid (w.heap.size ≤ wr.heap.size) := Lib.hid HI.out.below.size
      have HR0 : RowKit.Hid (RI w (wr.alloc (.cells #[.int .u8 (x0.toNat : Int), .int .i64 0, .int .i64 0] 105)) (.slice Au D.length cu) D wr.heap.size (tokF l q (0, 0))) := Lib.hid ⟨HI.out.grown (World.grownBy_alloc _ _ none), by rw [← hx0]; exact heap_alloc_new wr _⟩
      clear hc hg hx0
      go_wp2_with fail
      generalize wr.alloc (.cells #[.int .u8 (x0.toNat : Int), .int .i64 0, .int .i64 0] 105) = w1 at HR0 ⊢
      generalize wr.heap.size = G at HG0 HGW HR0 ⊢
      clear ct HI
      go_loopw [6, 7] (fun lk pp wr => ∃ (p k : Nat) (b : Nat × Nat), p ≤ q ∧ k ≤ 64 ∧ lk = .int .i64 (k : Int) ∧ ∃ z : Int, pp = .int .i64 z ∧ z = (p : Int) - 1 ∧ RI w wr (.slice Au D.length cu) D G (tokF l q b) ∧ lookR l q m p k b = Y) (fun _ pp _ => (intOf pp + 1).toNat)
      case atStart => exact ⟨q, 0, (0, 0), Nat.le_refl _, by omega, rfl, (q : Int) - 1, rfl, rfl, HR0.out, HLK.out⟩
      case round =>
        clear HR0 HLK
        obtain ⟨p, k, b, hp, hk, rfl, z, rfl, hz, hI, hlk⟩ := hrel
        have HI := Lib.hid hI
        have HLK := Lib.hid hlk
        clear hI hlk
        by_cases hgo : 0 < p ∧ q - (p - 1) ≤ 32768 ∧ k < 64
        · obtain ⟨p1, rfl⟩ : ∃ p1, p = p1 + 1 := ⟨p - 1, by omega⟩
          obtain rfl : z = (p1 : Int) := by omega
          have HLK2 : RowKit.Hid ((if mlen l p1 q m < 3 then lookR l q m p1 k b else lookR l q m p1 (k + 1) (if b.1 < mlen l p1 q m then (mlen l p1 q m, q - p1) else b)) = Y) := Lib.hid (by rw [← HLK.out, lookR, if_pos (show q - p1 ≤ 32768 ∧ k < 64 by omega)])
          obtain ⟨Z, HZ⟩ : ∃ Z, RowKit.Hid (mlen l p1 q m = Z) := ⟨_, Lib.hid rfl⟩
          rw [HZ.out] at HLK2
          have d2 : decide (0 ≤ (p1 : Int)) = true := decide_eq_true (by omega)
          have d3 : decide ((q : Int) - (p1 : Int) ≤ 32768) = true := decide_eq_true (by omega)
          have d4 : decide ((k : Int) < 64) = true := decide_eq_true (by omega)
          have hk64 : k < 64 := hgo.2.2
          clear HLK hgo hz hk
          go_wp2_with fail
          generalize wr = wk at HI ⊢
          go_loopw [8] (fun i wq => ∃ j s : Nat, j ≤ m ∧ i = .int .i64 (j : Int) ∧ wq = wk.drewN s ∧ mt l p1 q (m - j) j = Z) (fun i _ => m - (intOf i).toNat)
          case atStart => exact ⟨0, 0, Nat.zero_le _, rfl, rfl, HZ.out⟩
          case round =>
            obtain ⟨j, s, hj, rfl, hwr, hmt⟩ := hrel
            have HW := Lib.hid hwr
            have HMT := Lib.hid hmt
            have HBW : RowKit.Hid (Below w.heap.size w wr) := Lib.hid (by rw [hwr]; exact (HI.out.drewN s).di.below)
            clear hwr hmt HZ
            by_cases hjm : j < m
            · have g1 : decide ((j : Int) < 258) = true := decide_eq_true (by omega)
              have g2 : decide ((q : Int) + (j : Int) < (n : Int)) = true := decide_eq_true (by omega)
              obtain ⟨i1, e1⟩ : ∃ i1, p1 + j = i1 := ⟨_, rfl⟩
              obtain ⟨i2, e2⟩ : ∃ i2, q + j = i2 := ⟨_, rfl⟩
              have f1 : (p1 : Int) + (j : Int) = (i1 : Int) := by omega
              have f2 : (q : Int) + (j : Int) = (i2 : Int) := by omega
              have b1 : i1 < n := by omega
              have b2 : i2 < n := by omega
              rw [f2] at g2
              have c1 := HC.out wr HBW.out i1 b1
              have c2 := HC.out wr HBW.out i2 b2
              obtain ⟨x, hx⟩ : ∃ x, l.getD i1 0 = x := ⟨_, rfl⟩
              obtain ⟨y, hy⟩ : ∃ y, l.getD i2 0 = y := ⟨_, rfl⟩
              rw [hx] at c1
              rw [hy] at c2
              have HXY : RowKit.Hid (l.getD (p1 + j) 0 = x ∧ l.getD (q + j) 0 = y) := Lib.hid ⟨by rw [e1]; exact hx, by rw [e2]; exact hy⟩
              clear hx hy e1 e2
              by_cases hxy : x = y
              · subst hxy
                have g3 : ((x.toNat : Int) == (x.toNat : Int)) = true := by simp
                have HMT2 : RowKit.Hid (mt l p1 q (m - (j + 1)) (j + 1) = Z) := Lib.hid (by rw [← HMT.out, show m - j = (m - (j + 1)) + 1 by omega, mt_more (by rw [HXY.out.1, HXY.out.2])])
                go_wp2_with fail
                go_quiet (fail)
                have HW2 : RowKit.Hid (wr.drewN nq = wk.drewN (s + nq)) := Lib.hid (by rw [HW.out]; exact drewN_two wk s nq)
                generalize wr.drewN nq = w6 at HW2 ⊢
                clear HW
                clear HMT
                go_wp2_with fail
                go_roundw
                case rel => exact ⟨j + 1, s + nq, by omega, by simp, HW2.out, HMT2.out⟩
                case measure => simp [intOf] <;> omega
              · have g3 : ((x.toNat : Int) == (y.toNat : Int)) = false := by
                  rw [beq_eq_false_iff_ne]
                  intro e
                  exact hxy (UInt8.toNat_inj.1 (by omega))
                have HZJ : RowKit.Hid (Z = j) := Lib.hid (by rw [← HMT.out, show m - j = (m - (j + 1)) + 1 by omega, mt_stop (by rw [HXY.out.1, HXY.out.2]; exact hxy)])
                go_wp2_with fail
                go_quiet (fail)
                have HW2 : RowKit.Hid (wr.drewN nq = wk.drewN (s + nq)) := Lib.hid (by rw [HW.out]; exact drewN_two wk s nq)
                generalize wr.drewN nq = w6 at HW2 ⊢
                clear HW
                have HI5 := Lib.hid (HI.out.drewN (s + nq))
                rw [← HW2.out] at HI5
                have k0 : w6.cell? ⟨G, 0, none⟩ = some (.int .u8 ((tokF l q b).b.toNat : Int)) := HI5.out.row.cell 0
                have k1 : w6.cell? ⟨G, 1, none⟩ = some (.int .i64 (b.1 : Int)) := by rw [← tokF_l l q b]; exact HI5.out.row.cell 1
                have k2 : w6.cell? ⟨G, 2, none⟩ = some (.int .i64 (tokF l q b).d) := HI5.out.row.cell 2
                have f0 := HI5.out.row.thawed 0
                have f1 := HI5.out.row.thawed 1
                have f2 := HI5.out.row.thawed 2
                clear HW2 HI
                by_cases hj3 : j < 3
                · have e1 : decide ((j : Int) < 3) = true := decide_eq_true (by omega)
                  have HLK3 : RowKit.Hid (lookR l q m p1 k b = Y) := Lib.hid (by rw [← HLK2.out, HZJ.out, if_pos hj3])
                  go_wp2_with fail
                  go_roundw
                  case rel => exact ⟨p1, k, b, by omega, by omega, rfl, (p1 : Int) - 1, by simp, rfl, HI5.out, HLK3.out⟩
                  case measure => simp [intOf] <;> omega
                · have e1 : decide ((j : Int) < 3) = false := decide_eq_false (by omega)
                  have HLK3 : RowKit.Hid (lookR l q m p1 (k + 1) (if b.1 < j then (j, q - p1) else b) = Y) := Lib.hid (by rw [← HLK2.out, HZJ.out, if_neg hj3])
                  by_cases hbj : b.1 < j
                  · have e2 : decide ((b.1 : Int) < (j : Int)) = true := decide_eq_true (by omega)
                    have HI6 := Lib.hid (HI5.out.put HG0.out HGW.out ⟨0, (j : Int), (q : Int) - (p1 : Int)⟩)
                    have HTF : RowKit.Hid (tokF l q (j, q - p1) = ⟨0, (j : Int), (q : Int) - (p1 : Int)⟩) := Lib.hid (by unfold tokF; rw [if_neg (show ¬ (j, q - p1).1 = 0 by show ¬ j = 0; omega)]; show (⟨0, (j : Int), ((q - p1 : Nat) : Int)⟩ : Tk) = _; congr 1; omega)
                    clear HI5
                    go_wp2_with fail
                    go_roundw
                    case rel => exact ⟨p1, k + 1, (j, q - p1), by omega, by omega, by simp, (p1 : Int) - 1, by simp, rfl, by rw [HTF.out]; exact HI6.out, by rw [← HLK3.out, if_pos hbj]⟩
                    case measure => simp [intOf] <;> omega
                  · have e2 : decide ((b.1 : Int) < (j : Int)) = false := decide_eq_false (by omega)
                    go_wp2_with fail
                    go_roundw
                    case rel => exact ⟨p1, k + 1, b, by omega, by omega, by simp, (p1 : Int) - 1, by simp, rfl, HI5.out, by rw [← HLK3.out, if_neg hbj]⟩
                    case measure => simp [intOf] <;> omega
            · have hjm2 : j = m := by omega
              have HZJ : RowKit.Hid (Z = j) := Lib.hid (by rw [← HMT.out, hjm2, Nat.sub_self]; rfl)
              by_cases h258 : j = 258
              · have g1 : decide ((j : Int) < 258) = false := decide_eq_false (by omega)
                clear h258 hjm2
                go_wp2_with fail
                go_quiet (fail)
                have HW2 : RowKit.Hid (wr.drewN nq = wk.drewN (s + nq)) := Lib.hid (by rw [HW.out]; exact drewN_two wk s nq)
                generalize wr.drewN nq = w6 at HW2 ⊢
                clear HW
                have HI5 := Lib.hid (HI.out.drewN (s + nq))
                rw [← HW2.out] at HI5
                have k0 : w6.cell? ⟨G, 0, none⟩ = some (.int .u8 ((tokF l q b).b.toNat : Int)) := HI5.out.row.cell 0
                have k1 : w6.cell? ⟨G, 1, none⟩ = some (.int .i64 (b.1 : Int)) := by rw [← tokF_l l q b]; exact HI5.out.row.cell 1
                have k2 : w6.cell? ⟨G, 2, none⟩ = some (.int .i64 (tokF l q b).d) := HI5.out.row.cell 2
                have f0 := HI5.out.row.thawed 0
                have f1 := HI5.out.row.thawed 1
                have f2 := HI5.out.row.thawed 2
                clear HW2 HI
                by_cases hj3 : j < 3
                · have e1 : decide ((j : Int) < 3) = true := decide_eq_true (by omega)
                  have HLK3 : RowKit.Hid (lookR l q m p1 k b = Y) := Lib.hid (by rw [← HLK2.out, HZJ.out, if_pos hj3])
                  go_wp2_with fail
                  go_roundw
                  case rel => exact ⟨p1, k, b, by omega, by omega, rfl, (p1 : Int) - 1, by simp, rfl, HI5.out, HLK3.out⟩
                  case measure => simp [intOf] <;> omega
                · have e1 : decide ((j : Int) < 3) = false := decide_eq_false (by omega)
                  have HLK3 : RowKit.Hid (lookR l q m p1 (k + 1) (if b.1 < j then (j, q - p1) else b) = Y) := Lib.hid (by rw [← HLK2.out, HZJ.out, if_neg hj3])
                  by_cases hbj : b.1 < j
                  · have e2 : decide ((b.1 : Int) < (j : Int)) = true := decide_eq_true (by omega)
                    have HI6 := Lib.hid (HI5.out.put HG0.out HGW.out ⟨0, (j : Int), (q : Int) - (p1 : Int)⟩)
                    have HTF : RowKit.Hid (tokF l q (j, q - p1) = ⟨0, (j : Int), (q : Int) - (p1 : Int)⟩) := Lib.hid (by unfold tokF; rw [if_neg (show ¬ (j, q - p1).1 = 0 by show ¬ j = 0; omega)]; show (⟨0, (j : Int), ((q - p1 : Nat) : Int)⟩ : Tk) = _; congr 1; omega)
                    clear HI5
                    go_wp2_with fail
                    go_roundw
                    case rel => exact ⟨p1, k + 1, (j, q - p1), by omega, by omega, by simp, (p1 : Int) - 1, by simp, rfl, by rw [HTF.out]; exact HI6.out, by rw [← HLK3.out, if_pos hbj]⟩
                    case measure => simp [intOf] <;> omega
                  · have e2 : decide ((b.1 : Int) < (j : Int)) = false := decide_eq_false (by omega)
                    go_wp2_with fail
                    go_roundw
                    case rel => exact ⟨p1, k + 1, b, by omega, by omega, by simp, (p1 : Int) - 1, by simp, rfl, HI5.out, by rw [← HLK3.out, if_neg hbj]⟩
                    case measure => simp [intOf] <;> omega
              · have g1 : decide ((j : Int) < 258) = true := decide_eq_true (by omega)
                obtain ⟨i2, e2⟩ : ∃ i2, q + j = i2 := ⟨_, rfl⟩
                have f2 : (q : Int) + (j : Int) = (i2 : Int) := by omega
                have g2 : decide ((i2 : Int) < (n : Int)) = false := decide_eq_false (by have := HMD.out; omega)
                have b2 : i2 < 2000000 := by omega
                have g3 : decide (i2 < n) = false := decide_eq_false (by have := HMD.out; omega)
                have b3 : IntKind.i64.wrap (i2 : Int) = (i2 : Int) := by simp [IntKind.wrap, IntKind.signed, IntKind.bits]; omega
                clear h258 e2 hjm2
                go_wp2_with fail
                go_quiet (fail)
                have HW2 : RowKit.Hid (wr.drewN nq = wk.drewN (s + nq)) := Lib.hid (by rw [HW.out]; exact drewN_two wk s nq)
                generalize wr.drewN nq = w6 at HW2 ⊢
                clear HW
                have HI5 := Lib.hid (HI.out.drewN (s + nq))
                rw [← HW2.out] at HI5
                have k0 : w6.cell? ⟨G, 0, none⟩ = some (.int .u8 ((tokF l q b).b.toNat : Int)) := HI5.out.row.cell 0
                have k1 : w6.cell? ⟨G, 1, none⟩ = some (.int .i64 (b.1 : Int)) := by rw [← tokF_l l q b]; exact HI5.out.row.cell 1
                have k2 : w6.cell? ⟨G, 2, none⟩ = some (.int .i64 (tokF l q b).d) := HI5.out.row.cell 2
                have f0 := HI5.out.row.thawed 0
                have f1 := HI5.out.row.thawed 1
                have f2 := HI5.out.row.thawed 2
                clear HW2 HI
                by_cases hj3 : j < 3
                · have e1 : decide ((j : Int) < 3) = true := decide_eq_true (by omega)
                  have HLK3 : RowKit.Hid (lookR l q m p1 k b = Y) := Lib.hid (by rw [← HLK2.out, HZJ.out, if_pos hj3])
                  go_wp2_with fail
                  go_roundw
                  case rel => exact ⟨p1, k, b, by omega, by omega, rfl, (p1 : Int) - 1, by simp, rfl, HI5.out, HLK3.out⟩
                  case measure => simp [intOf] <;> omega
                · have e1 : decide ((j : Int) < 3) = false := decide_eq_false (by omega)
                  have HLK3 : RowKit.Hid (lookR l q m p1 (k + 1) (if b.1 < j then (j, q - p1) else b) = Y) := Lib.hid (by rw [← HLK2.out, HZJ.out, if_neg hj3])
                  by_cases hbj : b.1 < j
                  · have e2 : decide ((b.1 : Int) < (j : Int)) = true := decide_eq_true (by omega)
                    have HI6 := Lib.hid (HI5.out.put HG0.out HGW.out ⟨0, (j : Int), (q : Int) - (p1 : Int)⟩)
                    have HTF : RowKit.Hid (tokF l q (j, q - p1) = ⟨0, (j : Int), (q : Int) - (p1 : Int)⟩) := Lib.hid (by unfold tokF; rw [if_neg (show ¬ (j, q - p1).1 = 0 by show ¬ j = 0; omega)]; show (⟨0, (j : Int), ((q - p1 : Nat) : Int)⟩ : Tk) = _; congr 1; omega)
                    clear HI5
                    go_wp2_with fail
                    go_roundw
                    case rel => exact ⟨p1, k + 1, (j, q - p1), by omega, by omega, by simp, (p1 : Int) - 1, by simp, rfl, by rw [HTF.out]; exact HI6.out, by rw [← HLK3.out, if_pos hbj]⟩
                    case measure => simp [intOf] <;> omega
                  · have e2 : decide ((b.1 : Int) < (j : Int)) = false := decide_eq_false (by omega)
                    go_wp2_with fail
                    go_roundw
                    case rel => exact ⟨p1, k + 1, b, by omega, by omega, by simp, (p1 : Int) - 1, by simp, rfl, HI5.out, by rw [← HLK3.out, if_neg hbj]⟩
                    case measure => simp [intOf] <;> omega
        · have HYB : RowKit.Hid (Y = b) := Lib.hid (by
            rw [← HLK.out]
            cases p with
            | zero => rfl
            | succ p => rw [lookR, if_neg (by omega)])
          have hzl : -1 ≤ z := by omega
          have hzu : z < 1000000 := by omega
          by_cases hz0 : 0 ≤ z
          · have d2 : decide (0 ≤ z) = true := decide_eq_true hz0
            by_cases hz1 : (q : Int) - z ≤ 32768
            · have d3 : decide ((q : Int) - z ≤ 32768) = true := decide_eq_true hz1
              have d4 : decide ((k : Int) < 64) = false := decide_eq_false (by omega)
              clear hgo hz hk
              have HI4 : RowKit.Hid (OwnT 105 wr w.heap.size (.slice Au D.length cu) D) := Lib.hid HI.out.di.own
              have HB4 : RowKit.Hid (w.heap.size ≤ wr.heap.size) := Lib.hid HI.out.di.below.size
              have HD4 : RowKit.Hid (D.length ≤ 1000000) := Lib.hid (by omega)
              obtain ⟨tk, htk⟩ : ∃ tk, tokF l q b = tk := ⟨_, rfl⟩
              have HTL : RowKit.Hid (tk.l = (b.1 : Int)) := Lib.hid (by rw [← htk]; exact tokF_l l q b)
              rw [htk] at HI
              have k0 : wr.cell? ⟨G, 0, none⟩ = some (.int .u8 (tk.b.toNat : Int)) := HI.out.row.cell 0
              have k1 : wr.cell? ⟨G, 1, none⟩ = some (.int .i64 tk.l) := HI.out.row.cell 1
              have k2 : wr.cell? ⟨G, 2, none⟩ = some (.int .i64 tk.d) := HI.out.row.cell 2
              have HX3 : RowKit.Hid (D ++ [tk] ++ toksF l (n - (q + st)) (q + st) = X) := Lib.hid (by rw [← HX2.out, HYB.out, htk])
              have HS3 : RowKit.Hid (st = max 1 b.1 ∧ q + st ≤ n) := Lib.hid ⟨by rw [HSB.out, HYB.out], HST.out.2⟩
              clear HX2 htk HSB
              go_wp2_with (at_builtin; refine pushT 103 105 Tryd.underlying103 info31 wr wr.heap.size rfl rfl _ _ rfl w.heap.size (.slice Au D.length cu) D tk _ rfl rfl HI4.out rfl HB4.out HD4.out ?_)
              intro v4 w4 ho4 hg4
              have HI5 := Lib.hid (HI.out.di.push ho4 hg4)
              have hrow5 : Row w4 G (tokW tk) 105 := HI.out.row.grown hg4 (fun e => HG0.out G e.symm rfl)
              have q1 : w4.cell? ⟨G, 1, none⟩ = some (.int .i64 tk.l) := hrow5.cell 1
              obtain ⟨A4, c4, rfl⟩ := ho4.slice
              have hst := HS3.out.2
              have htl := HTL.out
              clear ho4 hg4 hrow5 k0 k1 k2 HI HI4
              by_cases hy : tk.l < 1
              · have hs1 : st = 1 := by have := HS3.out.1; omega
                have HS1 := Lib.hid hs1
                have hq1 : q + 1 ≤ n := by omega
                clear hs1 htl
                go_wp2_with fail
                go_roundw
                case rel => exact ⟨q + st, D ++ [tk], by rw [HS1.out]; simp, HS3.out.2, by have := HS1.out; simp; omega, by first | exact HI5.out | simpa using HI5.out, HX3.out⟩
                case measure => simp [intOf] <;> omega
              · have hs1 : tk.l = (st : Int) := by have := HS3.out.1; omega
                have HS1 := Lib.hid hs1
                have hst1 : 1 ≤ st := by omega
                rw [hs1] at q1
                have hsb : (1 : Int) ≤ (st : Int) := by omega
                clear hs1 htl hy
                go_wp2_with fail
                all_goals
                  go_roundw
                  case rel => exact ⟨q + st, D ++ [tk], by simp <;> omega, HS3.out.2, by have := hst1; simp; omega, by first | exact HI5.out | simpa using HI5.out, HX3.out⟩
                  case measure => simp [intOf] <;> omega
            · have d3 : decide ((q : Int) - z ≤ 32768) = false := decide_eq_false hz1
              clear hgo hz hk
              have HI4 : RowKit.Hid (OwnT 105 wr w.heap.size (.slice Au D.length cu) D) := Lib.hid HI.out.di.own
              have HB4 : RowKit.Hid (w.heap.size ≤ wr.heap.size) := Lib.hid HI.out.di.below.size
              have HD4 : RowKit.Hid (D.length ≤ 1000000) := Lib.hid (by omega)
              obtain ⟨tk, htk⟩ : ∃ tk, tokF l q b = tk := ⟨_, rfl⟩
              have HTL : RowKit.Hid (tk.l = (b.1 : Int)) := Lib.hid (by rw [← htk]; exact tokF_l l q b)
              rw [htk] at HI
              have k0 : wr.cell? ⟨G, 0, none⟩ = some (.int .u8 (tk.b.toNat : Int)) := HI.out.row.cell 0
              have k1 : wr.cell? ⟨G, 1, none⟩ = some (.int .i64 tk.l) := HI.out.row.cell 1
              have k2 : wr.cell? ⟨G, 2, none⟩ = some (.int .i64 tk.d) := HI.out.row.cell 2
              have HX3 : RowKit.Hid (D ++ [tk] ++ toksF l (n - (q + st)) (q + st) = X) := Lib.hid (by rw [← HX2.out, HYB.out, htk])
              have HS3 : RowKit.Hid (st = max 1 b.1 ∧ q + st ≤ n) := Lib.hid ⟨by rw [HSB.out, HYB.out], HST.out.2⟩
              clear HX2 htk HSB
              go_wp2_with (at_builtin; refine pushT 103 105 Tryd.underlying103 info31 wr wr.heap.size rfl rfl _ _ rfl w.heap.size (.slice Au D.length cu) D tk _ rfl rfl HI4.out rfl HB4.out HD4.out ?_)
              intro v4 w4 ho4 hg4
              have HI5 := Lib.hid (HI.out.di.push ho4 hg4)
              have hrow5 : Row w4 G (tokW tk) 105 := HI.out.row.grown hg4 (fun e => HG0.out G e.symm rfl)
              have q1 : w4.cell? ⟨G, 1, none⟩ = some (.int .i64 tk.l) := hrow5.cell 1
              obtain ⟨A4, c4, rfl⟩ := ho4.slice
              have hst := HS3.out.2
              have htl := HTL.out
              clear ho4 hg4 hrow5 k0 k1 k2 HI HI4
              by_cases hy : tk.l < 1
              · have hs1 : st = 1 := by have := HS3.out.1; omega
                have HS1 := Lib.hid hs1
                have hq1 : q + 1 ≤ n := by omega
                clear hs1 htl
                go_wp2_with fail
                go_roundw
                case rel => exact ⟨q + st, D ++ [tk], by rw [HS1.out]; simp, HS3.out.2, by have := HS1.out; simp; omega, by first | exact HI5.out | simpa using HI5.out, HX3.out⟩
                case measure => simp [intOf] <;> omega
              · have hs1 : tk.l = (st : Int) := by have := HS3.out.1; omega
                have HS1 := Lib.hid hs1
                have hst1 : 1 ≤ st := by omega
                rw [hs1] at q1
                have hsb : (1 : Int) ≤ (st : Int) := by omega
                clear hs1 htl hy
                go_wp2_with fail
                all_goals
                  go_roundw
                  case rel => exact ⟨q + st, D ++ [tk], by simp <;> omega, HS3.out.2, by have := hst1; simp; omega, by first | exact HI5.out | simpa using HI5.out, HX3.out⟩
                  case measure => simp [intOf] <;> omega
          · have d2 : decide (0 ≤ z) = false := decide_eq_false hz0
            clear hgo hz hk
            have HI4 : RowKit.Hid (OwnT 105 wr w.heap.size (.slice Au D.length cu) D) := Lib.hid HI.out.di.own
            have HB4 : RowKit.Hid (w.heap.size ≤ wr.heap.size) := Lib.hid HI.out.di.below.size
            have HD4 : RowKit.Hid (D.length ≤ 1000000) := Lib.hid (by omega)
            obtain ⟨tk, htk⟩ : ∃ tk, tokF l q b = tk := ⟨_, rfl⟩
            have HTL : RowKit.Hid (tk.l = (b.1 : Int)) := Lib.hid (by rw [← htk]; exact tokF_l l q b)
            rw [htk] at HI
            have k0 : wr.cell? ⟨G, 0, none⟩ = some (.int .u8 (tk.b.toNat : Int)) := HI.out.row.cell 0
            have k1 : wr.cell? ⟨G, 1, none⟩ = some (.int .i64 tk.l) := HI.out.row.cell 1
            have k2 : wr.cell? ⟨G, 2, none⟩ = some (.int .i64 tk.d) := HI.out.row.cell 2
            have HX3 : RowKit.Hid (D ++ [tk] ++ toksF l (n - (q + st)) (q + st) = X) := Lib.hid (by rw [← HX2.out, HYB.out, htk])
            have HS3 : RowKit.Hid (st = max 1 b.1 ∧ q + st ≤ n) := Lib.hid ⟨by rw [HSB.out, HYB.out], HST.out.2⟩
            clear HX2 htk HSB
            go_wp2_with (at_builtin; refine pushT 103 105 Tryd.underlying103 info31 wr wr.heap.size rfl rfl _ _ rfl w.heap.size (.slice Au D.length cu) D tk _ rfl rfl HI4.out rfl HB4.out HD4.out ?_)
            intro v4 w4 ho4 hg4
            have HI5 := Lib.hid (HI.out.di.push ho4 hg4)
            have hrow5 : Row w4 G (tokW tk) 105 := HI.out.row.grown hg4 (fun e => HG0.out G e.symm rfl)
            have q1 : w4.cell? ⟨G, 1, none⟩ = some (.int .i64 tk.l) := hrow5.cell 1
            obtain ⟨A4, c4, rfl⟩ := ho4.slice
            have hst := HS3.out.2
            have htl := HTL.out
            clear ho4 hg4 hrow5 k0 k1 k2 HI HI4
            by_cases hy : tk.l < 1
            · have hs1 : st = 1 := by have := HS3.out.1; omega
              have HS1 := Lib.hid hs1
              have hq1 : q + 1 ≤ n := by omega
              clear hs1 htl
              go_wp2_with fail
              go_roundw
              case rel => exact ⟨q + st, D ++ [tk], by rw [HS1.out]; simp, HS3.out.2, by have := HS1.out; simp; omega, by first | exact HI5.out | simpa using HI5.out, HX3.out⟩
              case measure => simp [intOf] <;> omega
            · have hs1 : tk.l = (st : Int) := by have := HS3.out.1; omega
              have HS1 := Lib.hid hs1
              have hst1 : 1 ≤ st := by omega
              rw [hs1] at q1
              have hsb : (1 : Int) ≤ (st : Int) := by omega
              clear hs1 htl hy
              go_wp2_with fail
              all_goals
                go_roundw
                case rel => exact ⟨q + st, D ++ [tk], by simp <;> omega, HS3.out.2, by have := hst1; simp; omega, by first | exact HI5.out | simpa using HI5.out, HX3.out⟩
                case measure => simp [intOf] <;> omega
    · obtain rfl : q = n := by omega
      have d1 : decide ((q : Int) < (q : Int)) = false := decide_eq_false (by omega)
      have HXD : RowKit.Hid (D = X) := Lib.hid (by rw [← HXX.out, Nat.sub_self]; simp [toksF])
      go_wp2_with fail
      go_ret
      exact ⟨_, rfl, by rw [← HXD.out]; exact HI.out.own, HI.out.below⟩
end Go.Proofs.YtpnnlhegncbfaaaDoor
