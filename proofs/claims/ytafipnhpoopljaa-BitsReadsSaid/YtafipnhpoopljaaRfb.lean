/- Contract of the reference's Bytes. -/
import Derived.Test.YtafipnhpoopljaaRfr
namespace Go.Proofs.Ytafipnhpoopljaa
open Go.RowKit

/-- The bytes of the bits of bytes. -/
theorem text_part (l : List UInt8) (p q : Nat) (hp : p % 8 = 0) (h : p + 8 * q ≤ 8 * l.length) : textB (((bitsL l).drop p).take (8 * q)) = (l.drop (p / 8)).take q := by
  refine (textB_eq (((bin_bitsL l).drop p).take _) ?_ ?_).symm
  · rw [List.length_take, List.length_drop, List.length_take, List.length_drop, bitsL_length]; omega
  · rw [numL_part l _ _ (by omega), numB_part (bin_bitsL l) _ _ (by rw [bitsL_length]; exact h), numB_bitsL, show 8 * (p / 8) = p by omega]

/-- What is left behind the reference's Bytes. -/
theorem bytes_end {w w2 w3 w4 : World} {H : Nat} {u a b : Value} {T : List UInt8} (hH : w.heap.size = H) (h1 : H + 1 < w2.heap.size) (ho : Own w3 w2.heap.size u T) (hg : w.grownBy w3 none) (h4 : w3.grownBy w4 (some H)) :
    Own ((w4.setCell ⟨H + 1, 0, none⟩ a).setCell ⟨H + 1, 1, none⟩ b).drew w.heap.size u T ∧ w.grownBy ((w4.setCell ⟨H + 1, 0, none⟩ a).setCell ⟨H + 1, 1, none⟩ b).drew none := by
  have hne : ∀ k, k < w2.heap.size → u.ownBlock = none ∨ u.ownBlock ≠ some k := fun k hk => .inr fun e => by have := (World.ownsRow.lt ho k e).1; omega
  have g5 := grown_setCell w4 (H + 1) 0 a
  have g6 := grown_setCell (w4.setCell ⟨H + 1, 0, none⟩ a) (H + 1) 1 b
  refine ⟨?_, ?_⟩
  · have h := World.ownsRow.kept (World.ownsRow.kept (World.ownsRow.kept ho h4 (hne H (by omega))) g5 (hne _ h1)) g6 (hne _ h1)
    exact own_mono (World.ownsRow.drew h) (by omega)
  · exact ⟨(g6.os.trans g5.os).trans (h4.os.trans hg.os), (g6.tape.trans g5.tape).trans (h4.tape.trans hg.tape), (g6.output.trans g5.output).trans (h4.output.trans hg.output),
      Nat.le_trans hg.size (Nat.le_trans h4.size (Nat.le_trans g5.size g6.size)), fun k hk _ => by
        have k3 := Nat.lt_of_lt_of_le hk hg.size
        have k4 := Nat.lt_of_lt_of_le k3 h4.size
        have k5 := Nat.lt_of_lt_of_le k4 g5.size
        exact (g6.block k k5 (by simp; omega)).trans ((g5.block k k4 (by simp; omega)).trans ((h4.block k k3 (by simp; omega)).trans (hg.block k hk (by simp))))⟩

set_option maxHeartbeats 1000000 in
theorem rfbytes_any {A : Option Addr} {n c : Nat} {l : List UInt8} {p : Nat} (k : Int) (w : World) (hM : ML w A n c l p) (hn : n ≤ 1000000) :
    Calls Try.prog 17 #[.agg #[.slice A n c, .int .i64 (p : Int)], .int .i64 k] w fun e w' => ∃ u, e = .returned (.tuple #[u, .agg #[.slice A n c, .int .i64 (yP l.length p k : Int)], .int .i64 (yE l.length p k : Int)]) ∧ Own w' w.heap.size u (yB l p k) ∧ w.grownBy w' none := by
  have HM := Lib.hid hM
  have hp : p ≤ 1000000 := by have := hM.le; omega
  have hln := hM.len
  clear hM
  by_cases h1 : k < 0
  · have he : yE l.length p k = 1 := y_out h1
    have hB : yB l p k = [] := yB_no (by rw [he]; decide)
    have hP : yP l.length p k = p := yP_no (by rw [he]; decide)
    rw [he, hB, hP]
    have hd : decide (k < 0) = true := decide_eq_true h1
    clear he hB hP hln
    go_enter Try.func17, Try.ntmps17
    go_wp2_with fail
    go_region
    go_wp2_with fail
    exact bodyPost_ret (results_mid rfl _ _ (w.heap.size + 1) 29 #[.slice A n c, .int .i64 (p : Int)] _ _ _ rfl rfl rfl (row2 w _ _ _ _) Try.underlying29 rfl size29) rfl ⟨_, rfl, Own.nil _ _, grown2d w _ _⟩
  · have hd : decide (k < 0) = false := decide_eq_false h1
    obtain ⟨q, rfl⟩ : ∃ q : Nat, k = (q : Int) := ⟨k.toNat, by omega⟩
    by_cases h2 : p % 8 ≠ 0
    · have he : yE l.length p q = 2 := y_form h1 h2
      have hB : yB l p q = [] := yB_no (by rw [he]; decide)
      have hP : yP l.length p q = p := yP_no (by rw [he]; decide)
      rw [he, hB, hP]
      have hd2 : ((p : Int) % 8 != 0) = true := by rw [bne_iff_ne]; omega
      clear he hB hP hln h1
      go_enter Try.func17, Try.ntmps17
      go_wp2_with fail
      go_region
      go_wp2_with fail
      exact bodyPost_ret (results_mid rfl _ _ (w.heap.size + 1) 29 #[.slice A n c, .int .i64 (p : Int)] _ _ _ rfl rfl rfl (row2 w _ _ _ _) Try.underlying29 rfl size29) rfl ⟨_, rfl, Own.nil _ _, grown2d w _ _⟩
    · have hd2 : ((p : Int) % 8 != 0) = false := by rw [bne_eq_false_iff_eq]; omega
      obtain ⟨z, hz⟩ : ∃ z, n - p = z := ⟨_, rfl⟩
      have hle := HM.out.le
      have hzi : (n : Int) - (p : Int) = (z : Int) := by omega
      have hzb : z ≤ 1000000 := by omega
      by_cases h3 : (8 * l.length - p) / 8 < ((q : Nat) : Int).toNat
      · have he : yE l.length p q = 10 := y_end h1 h2 h3
        have hB : yB l p q = [] := yB_no (by rw [he]; decide)
        have hP : yP l.length p q = p := yP_no (by rw [he]; decide)
        rw [he, hB, hP]
        simp only [Int.toNat_natCast] at h3
        have hd3 : decide ((z : Int) / 8 < (q : Int)) = true := decide_eq_true (by omega)
        clear he hB hP hln h1 h2 h3 hz hle
        go_enter Try.func17, Try.ntmps17
        go_wp2_with fail
        go_region
        go_wp2_with fail
        exact bodyPost_ret (results_mid rfl _ _ (w.heap.size + 1) 29 #[.slice A n c, .int .i64 (p : Int)] _ _ _ rfl rfl rfl (row2 w _ _ _ _) Try.underlying29 rfl size29) rfl ⟨_, rfl, Own.nil _ _, grown2d w _ _⟩
      · have he : yE l.length p q = 0 := y_ok h1 h2 h3
        have hB : yB l p q = (l.drop (p / 8)).take q := by unfold yB; rw [he]; rfl
        have hP : yP l.length p q = p + 8 * q := by unfold yP; rw [he]; rfl
        rw [he, hB, hP]
        simp only [Int.toNat_natCast] at h3
        have hd3 : decide ((z : Int) / 8 < (q : Int)) = false := decide_eq_false (by omega)
        have hpq : p + 8 * q ≤ n := by omega
        have hlc := HM.out.lc
        have HT := Lib.hid (text_part l p q (by omega) (by omega))
        have HPI := Lib.hid (show ((p + 8 * q : Nat) : Int) = (p : Int) + 8 * (q : Int) by omega)
        have hq : q ≤ 1000000 := by omega
        have HLN := Lib.hid hln
        clear he hB hP hln h1 h2 h3 hz hle
        rcases HM.out.form with hA | ⟨b, o, hA⟩
        · subst hA
          have hn0 : n = 0 := by
            rcases Nat.eq_zero_or_pos n with h0 | h0
            · exact h0
            · obtain ⟨_, _, he, _⟩ := HM.out.rd.2 h0; cases he
          subst hn0
          obtain ⟨rfl, rfl⟩ : p = 0 ∧ q = 0 := by omega
          have hcc := HM.out.cap rfl
          subst hcc
          go_enter Try.func17, Try.ntmps17
          go_wp2_with fail
          have hr0 : Row ((w.alloc (.cells #[.slice none 0 0, .int .i64 0] 29)).alloc (.cells #[.slice none 0 0, .int .i64 0] 29)) w.heap.size #[.slice none 0 0, .int .i64 0] 29 := (Row.new w _ _).grown (World.grownBy_alloc _ _ none) (by simp)
          have hr1 : Row ((w.alloc (.cells #[.slice none 0 0, .int .i64 0] 29)).alloc (.cells #[.slice none 0 0, .int .i64 0] 29)) (w.heap.size + 1) #[.slice none 0 0, .int .i64 0] 29 := row2 w _ _ _ _
          have hgw := grown2 w (.cells #[.slice none 0 0, .int .i64 0] 29) (.cells #[.slice none 0 0, .int .i64 0] 29)
          have hM2 := HM.out.still hgw
          generalize (w.alloc (.cells #[.slice none 0 0, .int .i64 0] 29)).alloc (.cells #[.slice none 0 0, .int .i64 0] 29) = w2 at hr0 hr1 hgw hM2 ⊢
          refine (rtext_any none 0 0 [] w2 ⟨rfl, fun h => by omega⟩ Bin.nil (by decide)).mono ?_
          rintro e w3 ⟨u, rfl, hG⟩
          obtain ⟨nu, hnu⟩ : ∃ nu, (textB ([])).length = nu := ⟨_, rfl⟩
          obtain ⟨Au, cu, hu⟩ := hG.own.slice
          rw [hnu] at hu
          subst hu
          have h30 := hr0.below hG.below hr0.lt
          have h31 := hr1.below hG.below hr1.lt
          have HF := Lib.hid (And.intro h30 (And.intro h31 (And.intro hG.own (And.intro (hgw.trans (grown_of_below hG.below)) hr1.lt))))
          obtain ⟨H, hH⟩ : ∃ H, w.heap.size = H := ⟨_, rfl⟩
          rw [hH] at h30 h31 HF ⊢
          have d0 : w3.cell? ⟨H, 0, none⟩ = some (.slice none 0 0) := h30.cell 0
          have d1 : w3.cell? ⟨H, 1, none⟩ = some (.int .i64 0) := h30.cell 1
          have f1 := h30.thawed 1
          have HHE := Lib.hid hH
          clear hr0 hr1 hgw hM2 hG h30 h31 hnu hH
          go_upto_region 9 with fail
          have HF4 := Lib.hid (show Row (w3.setCell ⟨H, 1, none⟩ (.int .i64 (0))) H #[.slice none 0 0, .int .i64 (0)] 29 ∧ Row (w3.setCell ⟨H, 1, none⟩ (.int .i64 (0))) (H + 1) #[.slice none 0 0, .int .i64 0] 29 ∧ w3.grownBy (w3.setCell ⟨H, 1, none⟩ (.int .i64 (0))) (some H) from ⟨HF.out.1.set 1 _, HF.out.2.1.other (by omega) _ _, grown_setCell w3 H 1 _⟩)
          clear d0 d1 f1
          generalize w3.setCell ⟨H, 1, none⟩ (.int .i64 (0)) = w4 at HF4 ⊢
          have d0 : w4.cell? ⟨H, 0, none⟩ = some (.slice none 0 0) := HF4.out.1.cell 0
          have d1 : w4.cell? ⟨H, 1, none⟩ = some (.int .i64 (0)) := HF4.out.1.cell 1
          have d2 : w4.cell? ⟨H + 1, 0, none⟩ = some (.slice none 0 0) := HF4.out.2.1.cell 0
          have d3 : w4.cell? ⟨H + 1, 1, none⟩ = some (.int .i64 0) := HF4.out.2.1.cell 1
          have f2 := HF4.out.2.1.thawed 0
          have f3 := HF4.out.2.1.thawed 1
          go_region
          have hend := bytes_end (a := .slice none 0 0) (b := .int .i64 (0)) HHE.out HF.out.2.2.2.2 HF.out.2.2.1 HF.out.2.2.2.1 HF4.out.2.2
          rw [show textB [] = [] from rfl] at hend
          have hrow : Row ((w4.setCell ⟨H + 1, 0, none⟩ (.slice none 0 0)).setCell ⟨H + 1, 1, none⟩ (.int .i64 (0))).drew (H + 1) #[.slice none 0 0, .int .i64 (0)] 29 := ((HF4.out.2.1.set 0 _).set 1 _).drew
          have HEND := Lib.hid (And.intro hrow hend)
          clear hend hrow d0 d1 d2 d3 f2 f3
          generalize ((w4.setCell ⟨H + 1, 0, none⟩ (.slice none 0 0)).setCell ⟨H + 1, 1, none⟩ (.int .i64 (0))).drew = w5 at HEND ⊢
          go_wp2_with fail
          exact bodyPost_ret (results_mid rfl _ _ (H + 1) 29 #[.slice none 0 0, .int .i64 (0)] _ _ _ rfl rfl rfl HEND.out.1 Try.underlying29 rfl size29) rfl ⟨_, rfl, HEND.out.2.1, HEND.out.2.2⟩
        · subst hA
          by_cases hcf : c = p
          · have hcp : p = c := hcf.symm
            subst hcp
            obtain rfl : q = 0 := by omega
            rw [List.take_zero]
            go_enter Try.func17, Try.ntmps17
            go_wp2_with fail
            have hr0 : Row ((w.alloc (.cells #[.slice (some ⟨b, o, none⟩) n p, .int .i64 (p : Int)] 29)).alloc (.cells #[.slice none 0 0, .int .i64 0] 29)) w.heap.size #[.slice (some ⟨b, o, none⟩) n p, .int .i64 (p : Int)] 29 := (Row.new w _ _).grown (World.grownBy_alloc _ _ none) (by simp)
            have hr1 : Row ((w.alloc (.cells #[.slice (some ⟨b, o, none⟩) n p, .int .i64 (p : Int)] 29)).alloc (.cells #[.slice none 0 0, .int .i64 0] 29)) (w.heap.size + 1) #[.slice none 0 0, .int .i64 0] 29 := row2 w _ _ _ _
            have hgw := grown2 w (.cells #[.slice (some ⟨b, o, none⟩) n p, .int .i64 (p : Int)] 29) (.cells #[.slice none 0 0, .int .i64 0] 29)
            have hM2 := HM.out.still hgw
            generalize (w.alloc (.cells #[.slice (some ⟨b, o, none⟩) n p, .int .i64 (p : Int)] 29)).alloc (.cells #[.slice none 0 0, .int .i64 0] 29) = w2 at hr0 hr1 hgw hM2 ⊢
            refine (rtext_any (some ⟨b, o, none⟩) 0 0 [] w2 ⟨rfl, fun h => by omega⟩ Bin.nil (by decide)).mono ?_
            rintro e w3 ⟨u, rfl, hG⟩
            obtain ⟨nu, hnu⟩ : ∃ nu, (textB ([])).length = nu := ⟨_, rfl⟩
            obtain ⟨Au, cu, hu⟩ := hG.own.slice
            rw [hnu] at hu
            subst hu
            have h30 := hr0.below hG.below hr0.lt
            have h31 := hr1.below hG.below hr1.lt
            have HF := Lib.hid (And.intro h30 (And.intro h31 (And.intro hG.own (And.intro (hgw.trans (grown_of_below hG.below)) hr1.lt))))
            obtain ⟨H, hH⟩ : ∃ H, w.heap.size = H := ⟨_, rfl⟩
            rw [hH] at h30 h31 HF ⊢
            have d0 : w3.cell? ⟨H, 0, none⟩ = some (.slice (some ⟨b, o, none⟩) n p) := h30.cell 0
            have d1 : w3.cell? ⟨H, 1, none⟩ = some (.int .i64 (p : Int)) := h30.cell 1
            have f1 := h30.thawed 1
            have HHE := Lib.hid hH
            clear hr0 hr1 hgw hM2 hG h30 h31 hnu hH
            go_upto_region 9 with fail
            have HF4 := Lib.hid (show Row (w3.setCell ⟨H, 1, none⟩ (.int .i64 ((p : Int)))) H #[.slice (some ⟨b, o, none⟩) n p, .int .i64 ((p : Int))] 29 ∧ Row (w3.setCell ⟨H, 1, none⟩ (.int .i64 ((p : Int)))) (H + 1) #[.slice none 0 0, .int .i64 0] 29 ∧ w3.grownBy (w3.setCell ⟨H, 1, none⟩ (.int .i64 ((p : Int)))) (some H) from ⟨HF.out.1.set 1 _, HF.out.2.1.other (by omega) _ _, grown_setCell w3 H 1 _⟩)
            clear d0 d1 f1
            generalize w3.setCell ⟨H, 1, none⟩ (.int .i64 ((p : Int))) = w4 at HF4 ⊢
            have d0 : w4.cell? ⟨H, 0, none⟩ = some (.slice (some ⟨b, o, none⟩) n p) := HF4.out.1.cell 0
            have d1 : w4.cell? ⟨H, 1, none⟩ = some (.int .i64 ((p : Int))) := HF4.out.1.cell 1
            have d2 : w4.cell? ⟨H + 1, 0, none⟩ = some (.slice none 0 0) := HF4.out.2.1.cell 0
            have d3 : w4.cell? ⟨H + 1, 1, none⟩ = some (.int .i64 0) := HF4.out.2.1.cell 1
            have f2 := HF4.out.2.1.thawed 0
            have f3 := HF4.out.2.1.thawed 1
            go_region
            have hend := bytes_end (a := .slice (some ⟨b, o, none⟩) n p) (b := .int .i64 ((p : Int))) HHE.out HF.out.2.2.2.2 HF.out.2.2.1 HF.out.2.2.2.1 HF4.out.2.2
            rw [show textB [] = [] from rfl] at hend
            have hrow : Row ((w4.setCell ⟨H + 1, 0, none⟩ (.slice (some ⟨b, o, none⟩) n p)).setCell ⟨H + 1, 1, none⟩ (.int .i64 ((p : Int)))).drew (H + 1) #[.slice (some ⟨b, o, none⟩) n p, .int .i64 ((p : Int))] 29 := ((HF4.out.2.1.set 0 _).set 1 _).drew
            have HEND := Lib.hid (And.intro hrow hend)
            clear hend hrow d0 d1 d2 d3 f2 f3
            generalize ((w4.setCell ⟨H + 1, 0, none⟩ (.slice (some ⟨b, o, none⟩) n p)).setCell ⟨H + 1, 1, none⟩ (.int .i64 ((p : Int)))).drew = w5 at HEND ⊢
            go_wp2_with fail
            exact bodyPost_ret (results_mid rfl _ _ (H + 1) 29 #[.slice (some ⟨b, o, none⟩) n p, .int .i64 ((p : Int))] _ _ _ rfl rfl rfl HEND.out.1 Try.underlying29 rfl size29) rfl ⟨_, rfl, HEND.out.2.1, HEND.out.2.2⟩
          · skip
            go_enter Try.func17, Try.ntmps17
            go_wp2_with fail
            have hr0 : Row ((w.alloc (.cells #[.slice (some ⟨b, o, none⟩) n c, .int .i64 (p : Int)] 29)).alloc (.cells #[.slice none 0 0, .int .i64 0] 29)) w.heap.size #[.slice (some ⟨b, o, none⟩) n c, .int .i64 (p : Int)] 29 := (Row.new w _ _).grown (World.grownBy_alloc _ _ none) (by simp)
            have hr1 : Row ((w.alloc (.cells #[.slice (some ⟨b, o, none⟩) n c, .int .i64 (p : Int)] 29)).alloc (.cells #[.slice none 0 0, .int .i64 0] 29)) (w.heap.size + 1) #[.slice none 0 0, .int .i64 0] 29 := row2 w _ _ _ _
            have hgw := grown2 w (.cells #[.slice (some ⟨b, o, none⟩) n c, .int .i64 (p : Int)] 29) (.cells #[.slice none 0 0, .int .i64 0] 29)
            have hM2 := HM.out.still hgw
            generalize (w.alloc (.cells #[.slice (some ⟨b, o, none⟩) n c, .int .i64 (p : Int)] 29)).alloc (.cells #[.slice none 0 0, .int .i64 0] 29) = w2 at hr0 hr1 hgw hM2 ⊢
            have hrd := hM2.rd.part p (8 * q) hpq
            rw [show ((us (bitsL l)).drop p).take (8 * q) = us (((bitsL l).drop p).take (8 * q)) by simp [us]] at hrd
            refine (rtext_any _ (8 * q) _ _ w2 hrd (((bin_bitsL l).drop p).take (8 * q)) (by omega)).mono ?_
            clear hrd
            rintro e w3 ⟨u, rfl, hG⟩
            obtain ⟨nu, hnu⟩ : ∃ nu, (textB (((bitsL l).drop p).take (8 * q))).length = nu := ⟨_, rfl⟩
            obtain ⟨Au, cu, hu⟩ := hG.own.slice
            rw [hnu] at hu
            subst hu
            have h30 := hr0.below hG.below hr0.lt
            have h31 := hr1.below hG.below hr1.lt
            have HF := Lib.hid (And.intro h30 (And.intro h31 (And.intro hG.own (And.intro (hgw.trans (grown_of_below hG.below)) hr1.lt))))
            obtain ⟨H, hH⟩ : ∃ H, w.heap.size = H := ⟨_, rfl⟩
            rw [hH] at h30 h31 HF ⊢
            have d0 : w3.cell? ⟨H, 0, none⟩ = some (.slice (some ⟨b, o, none⟩) n c) := h30.cell 0
            have d1 : w3.cell? ⟨H, 1, none⟩ = some (.int .i64 (p : Int)) := h30.cell 1
            have f1 := h30.thawed 1
            have HHE := Lib.hid hH
            clear hr0 hr1 hgw hM2 hG h30 h31 hnu hH
            go_upto_region 9 with fail
            have HF4 := Lib.hid (show Row (w3.setCell ⟨H, 1, none⟩ (.int .i64 ((p : Int) + 8 * (q : Int)))) H #[.slice (some ⟨b, o, none⟩) n c, .int .i64 ((p : Int) + 8 * (q : Int))] 29 ∧ Row (w3.setCell ⟨H, 1, none⟩ (.int .i64 ((p : Int) + 8 * (q : Int)))) (H + 1) #[.slice none 0 0, .int .i64 0] 29 ∧ w3.grownBy (w3.setCell ⟨H, 1, none⟩ (.int .i64 ((p : Int) + 8 * (q : Int)))) (some H) from ⟨HF.out.1.set 1 _, HF.out.2.1.other (by omega) _ _, grown_setCell w3 H 1 _⟩)
            clear d0 d1 f1
            generalize w3.setCell ⟨H, 1, none⟩ (.int .i64 ((p : Int) + 8 * (q : Int))) = w4 at HF4 ⊢
            have d0 : w4.cell? ⟨H, 0, none⟩ = some (.slice (some ⟨b, o, none⟩) n c) := HF4.out.1.cell 0
            have d1 : w4.cell? ⟨H, 1, none⟩ = some (.int .i64 ((p : Int) + 8 * (q : Int))) := HF4.out.1.cell 1
            have d2 : w4.cell? ⟨H + 1, 0, none⟩ = some (.slice none 0 0) := HF4.out.2.1.cell 0
            have d3 : w4.cell? ⟨H + 1, 1, none⟩ = some (.int .i64 0) := HF4.out.2.1.cell 1
            have f2 := HF4.out.2.1.thawed 0
            have f3 := HF4.out.2.1.thawed 1
            go_region
            have hend := bytes_end (a := .slice (some ⟨b, o, none⟩) n c) (b := .int .i64 ((p : Int) + 8 * (q : Int))) HHE.out HF.out.2.2.2.2 HF.out.2.2.1 HF.out.2.2.2.1 HF4.out.2.2
            rw [HT.out] at hend
            have hrow : Row ((w4.setCell ⟨H + 1, 0, none⟩ (.slice (some ⟨b, o, none⟩) n c)).setCell ⟨H + 1, 1, none⟩ (.int .i64 ((p : Int) + 8 * (q : Int)))).drew (H + 1) #[.slice (some ⟨b, o, none⟩) n c, .int .i64 ((p : Int) + 8 * (q : Int))] 29 := ((HF4.out.2.1.set 0 _).set 1 _).drew
            have HEND := Lib.hid (And.intro hrow hend)
            clear hend hrow d0 d1 d2 d3 f2 f3
            generalize ((w4.setCell ⟨H + 1, 0, none⟩ (.slice (some ⟨b, o, none⟩) n c)).setCell ⟨H + 1, 1, none⟩ (.int .i64 ((p : Int) + 8 * (q : Int)))).drew = w5 at HEND ⊢
            go_wp2_with fail
            exact bodyPost_ret (results_mid rfl _ _ (H + 1) 29 #[.slice (some ⟨b, o, none⟩) n c, .int .i64 ((p : Int) + 8 * (q : Int))] _ _ _ rfl rfl rfl HEND.out.1 Try.underlying29 rfl size29) rfl ⟨_, by rw [HPI.out]; rfl, HEND.out.2.1, HEND.out.2.2⟩
end Go.Proofs.Ytafipnhpoopljaa
