/- Contract of the reference's Untokens. -/
import Derived.Test.YtnadnokjhinmcaaUtk
namespace Go.Proofs.Ytnadnokjhinmcaa
open Go.RowKit

set_option maxHeartbeats 4000000 in
set_option maxRecDepth 10000 in
theorem runtok_any (A : Option Addr) (n c : Nat) (l : List Tk) (w : World) (hr : RdT w w.heap.size A n l) (hn : n ≤ 1000000) (hB : ∀ k o, untokF (l.take k) [] = .ok o → o.length ≤ 900000) :
    Calls Try.prog 12 #[.slice A n c] w fun e w' => ∃ (v : Value) (k : Nat), e = .returned (.tuple #[v, Value.int .i64 (k : Int)]) ∧ Below w.heap.size w w' ∧ ((k = 0 ∧ ∃ o, untokF l [] = .ok o ∧ Own w' w.heap.size v o) ∨ (k ≠ 0 ∧ untokF l [] = .error k)) := by
  obtain ⟨X, HX⟩ : ∃ X, RowKit.Hid (untokF l [] = X) := ⟨_, Lib.hid rfl⟩
  rw [HX.out]
  have HR := Lib.hid hr
  have HB := Lib.hid hB
  clear hr hB
  go_enter Try.func12, Try.ntmps12
  go_wp2_with fail
  go_loopw [4, 11] (fun u i wr => ∃ (k : Nat) (o : List UInt8), i = .int .i64 (k : Int) ∧ k ≤ n ∧ UI w wr u o ∧ untokF (l.take k) [] = .ok o ∧ untokF (l.drop k) o = X) (fun _ i _ => n - (intOf i).toNat)
  case atStart => exact ⟨0, [], rfl, Nat.zero_le _, ⟨Own.lit w #[] [] 0 rfl rfl (by decide), (Below.refl _ _).alloc (Nat.le_refl _) _⟩, rfl, HX.out⟩
  case round =>
    obtain ⟨k, o, rfl, hk, hI, hT, hD⟩ := hrel
    have HI := Lib.hid hI
    have HT := Lib.hid hT
    have HD := Lib.hid hD
    clear hI hT hD
    by_cases hlt : k < n
    · have d1 : decide ((k : Int) < (n : Int)) = true := decide_eq_true (by omega)
      obtain ⟨g, oo, a, rfl, hg, ha, c0, c1, c2⟩ := (HR.out.below HI.out.below).cells hlt
      have HA := Lib.hid ha
      have HD2 : RowKit.Hid ((if refuse a o.length = 0 then untokF (l.drop (k + 1)) (putT a o) else .error (refuse a o.length)) = X) := Lib.hid (by
        rw [← HD.out, show l.drop k = a :: l.drop (k + 1) by
          obtain ⟨h1, h2⟩ := List.getElem?_eq_some_iff.1 ha
          rw [← h2]; exact (List.drop_eq_getElem_cons h1), untokF])
      have HTM : RowKit.Hid (refuse a o.length = 0 → untokF (l.take (k + 1)) [] = .ok (putT a o)) := Lib.hid (fun h => by
        rw [take_more ha, untokF_append _ _ _ _ HT.out, untokF, if_pos h]; rfl)
      have hol := HB.out k o HT.out
      obtain ⟨Au, cu, rfl⟩ := HI.out.own.slice
      obtain ⟨R, hR⟩ : ∃ R, refuse a o.length = R := ⟨_, rfl⟩
      have HRO : RowKit.Hid (R = 0 → a.l ≠ 0 → 3 ≤ a.l ∧ a.l ≤ 258 ∧ 1 ≤ a.d ∧ a.d ≤ 32768 ∧ a.d ≤ (o.length : Int) ∧ a.b = 0) := Lib.hid (fun h hl => refuse_ok (hR.trans h) hl)
      rw [hR] at HD2 HTM
      have HRR := Lib.hid hR
      clear ha hg hR HD
      have hga : wr.grownBy (wr.alloc (.cells #[U8 a.b, .int .i64 a.l, .int .i64 a.d] 31)) none := World.grownBy_alloc wr (.cells #[U8 a.b, .int .i64 a.l, .int .i64 a.d] 31) none
      have HI2 := Lib.hid (HI.out.grown hga)
      have hrow2 : Row (wr.alloc (.cells #[U8 a.b, .int .i64 a.l, .int .i64 a.d] 31)) wr.heap.size #[U8 a.b, .int .i64 a.l, .int .i64 a.d] 31 := heap_alloc_new wr _
      have HRW := Lib.hid hrow2
      have k0 : (wr.alloc (.cells #[U8 a.b, .int .i64 a.l, .int .i64 a.d] 31)).cell? ⟨wr.heap.size, 0, none⟩ = some (.int .u8 (a.b.toNat : Int)) := hrow2.cell 0
      have k1 : (wr.alloc (.cells #[U8 a.b, .int .i64 a.l, .int .i64 a.d] 31)).cell? ⟨wr.heap.size, 1, none⟩ = some (.int .i64 a.l) := hrow2.cell 1
      have k2 : (wr.alloc (.cells #[U8 a.b, .int .i64 a.l, .int .i64 a.d] 31)).cell? ⟨wr.heap.size, 2, none⟩ = some (.int .i64 a.d) := hrow2.cell 2
      have HWA : RowKit.Hid (wr.heap.size ≤ (wr.alloc (.cells #[U8 a.b, .int .i64 a.l, .int .i64 a.d] 31)).heap.size) := Lib.hid (by simp)
      clear hga hrow2
      cases R with
      | succ R =>
        have HX1 : RowKit.Hid (X = .error (R + 1)) := Lib.hid (by rw [← HD2.out, if_neg (by omega)])
        have HR2 : RowKit.Hid ((formed a = false → R + 1 = 2) ∧ (formed a = true → R + 1 = 1)) := Lib.hid (by
          have h1 := HRR.out
          unfold refuse at h1
          refine ⟨fun h => by rw [if_pos h] at h1; exact h1.symm, fun h => ?_⟩
          rw [if_neg (by rw [h]; decide)] at h1
          split at h1
          · exact h1.symm
          · have h3 : szI a.l ≤ 258 := by
              have := isForm_false h
              unfold szI; split <;> omega
            rw [if_neg (by omega)] at h1
            omega)
        cases hf : formed a with
        | true =>
          have HX2 : RowKit.Hid (X = .error 1) := Lib.hid (by rw [HX1.out, HR2.out.2 hf])
          have hrf : 0 < a.l ∧ (a.d < 1 ∨ 32768 < a.d ∨ (o.length : Int) < a.d) := by
            have h1 := HRR.out
            have h2 := HR2.out.2 hf
            unfold refuse at h1
            rw [if_neg (by rw [hf]; decide)] at h1
            split at h1
            · assumption
            · split at h1 <;> omega
          have hfm : 3 ≤ a.l ∧ a.l ≤ 258 ∧ a.d ≠ 0 ∧ a.b = 0 := by
            unfold formed at hf
            rw [if_neg (by omega)] at hf
            exact of_decide_eq_true hf
          obtain ⟨g1, g2, g3, g4⟩ := hfm
          have d1 : decide (a.l < 0) = false := decide_eq_false (by omega)
          have d2 : (a.l == 1) = false := by rw [beq_eq_false_iff_ne]; omega
          have d3 : (a.l == 2) = false := by rw [beq_eq_false_iff_ne]; omega
          have d4 : decide (258 < a.l) = false := decide_eq_false (by omega)
          have d5 : (a.l == 0) = false := by rw [beq_eq_false_iff_ne]; omega
          have d6 : (a.d == 0) = false := by rw [beq_eq_false_iff_ne]; omega
          have d7 : decide (0 < a.l) = true := decide_eq_true (by omega)
          have d8 : ((a.b.toNat : Int) != 0) = false := by rw [g4]; rfl
          clear g4
          by_cases e1 : a.d < 1
          · have d9 : decide (a.d < 1) = true := decide_eq_true e1
            clear hrf HTM HD2 hf
            go_wp2_with fail
            go_ret2
            exact ⟨_, 1, rfl, HI2.out.below, .inr ⟨by decide, HX2.out⟩⟩
          · have d9 : decide (a.d < 1) = false := decide_eq_false e1
            by_cases e2 : 32768 < a.d
            · have d10 : decide (32768 < a.d) = true := decide_eq_true e2
              clear hrf HTM HD2 hf
              go_wp2_with fail
              go_ret2
              exact ⟨_, 1, rfl, HI2.out.below, .inr ⟨by decide, HX2.out⟩⟩
            · have d10 : decide (32768 < a.d) = false := decide_eq_false e2
              have d11 : decide ((o.length : Int) < a.d) = true := decide_eq_true (by omega)
              clear hrf HTM HD2 hf
              go_wp2_with fail
              go_ret2
              exact ⟨_, 1, rfl, HI2.out.below, .inr ⟨by decide, HX2.out⟩⟩
        | false =>
          have HX2 : RowKit.Hid (X = .error 2) := Lib.hid (by rw [HX1.out, HR2.out.1 hf])
          have hff : ¬ (a.l = 0 ∧ a.d = 0) ∧ ¬ (3 ≤ a.l ∧ a.l ≤ 258 ∧ a.d ≠ 0 ∧ a.b = 0) := by
            unfold formed at hf
            split at hf
            · rename_i h
              have := of_decide_eq_false hf
              exact ⟨fun hh => this hh.2, fun hh => by omega⟩
            · rename_i h
              exact ⟨fun hh => h hh.1, of_decide_eq_false hf⟩
          have HFF := Lib.hid hff
          clear hff hf HTM HD2
          by_cases e1 : a.l < 0
          · have d1 : decide (a.l < 0) = true := decide_eq_true e1
            go_wp2_with fail
            go_ret2
            exact ⟨_, 2, rfl, HI2.out.below, .inr ⟨by decide, HX2.out⟩⟩
          · have d1 : decide (a.l < 0) = false := decide_eq_false e1
            by_cases e2 : a.l = 1
            · have d2 : (a.l == 1) = true := by rw [e2]; rfl
              clear e2
              go_wp2_with fail
              go_ret2
              exact ⟨_, 2, rfl, HI2.out.below, .inr ⟨by decide, HX2.out⟩⟩
            · have d2 : (a.l == 1) = false := by rw [beq_eq_false_iff_ne]; exact e2
              by_cases e3 : a.l = 2
              · have d3 : (a.l == 2) = true := by rw [e3]; rfl
                clear e3
                go_wp2_with fail
                go_ret2
                exact ⟨_, 2, rfl, HI2.out.below, .inr ⟨by decide, HX2.out⟩⟩
              · have d3 : (a.l == 2) = false := by rw [beq_eq_false_iff_ne]; exact e3
                by_cases e4 : 258 < a.l
                · have d4 : decide (258 < a.l) = true := decide_eq_true e4
                  go_wp2_with fail
                  go_ret2
                  exact ⟨_, 2, rfl, HI2.out.below, .inr ⟨by decide, HX2.out⟩⟩
                · have d4 : decide (258 < a.l) = false := decide_eq_false e4
                  by_cases e5 : a.l = 0
                  · have d5 : (a.l == 0) = true := by rw [e5]; rfl
                    have d6 : (a.d == 0) = false := by rw [beq_eq_false_iff_ne]; have := HFF.out.1; omega
                    clear e5
                    go_wp2_with fail
                    go_ret2
                    exact ⟨_, 2, rfl, HI2.out.below, .inr ⟨by decide, HX2.out⟩⟩
                  · have d5 : (a.l == 0) = false := by rw [beq_eq_false_iff_ne]; exact e5
                    by_cases e6 : a.d = 0
                    · have d6 : (a.d == 0) = true := by rw [e6]; rfl
                      clear e6
                      go_wp2_with fail
                      go_ret2
                      exact ⟨_, 2, rfl, HI2.out.below, .inr ⟨by decide, HX2.out⟩⟩
                    · have d6 : (a.d == 0) = false := by rw [beq_eq_false_iff_ne]; exact e6
                      have d7 : decide (0 < a.l) = true := decide_eq_true (by omega)
                      have d8 : ((a.b.toNat : Int) != 0) = true := by
                        have h1 := b_zero a.b
                        rw [decide_eq_false (fun h => HFF.out.2 ⟨by omega, by omega, e6, h⟩)] at h1
                        show (!((a.b.toNat : Int) == 0)) = true
                        rw [h1]; rfl
                      go_wp2_with fail
                      go_ret2
                      exact ⟨_, 2, rfl, HI2.out.below, .inr ⟨by decide, HX2.out⟩⟩
      | zero =>
        have HX2 : RowKit.Hid (untokF (l.drop (k + 1)) (putT a o) = X) := Lib.hid (by rw [← HD2.out, if_pos rfl])
        have HT2 := Lib.hid (HTM.out rfl)
        clear HTM HD2
        by_cases hl0 : a.l = 0
        · have d2 : (a.l == 0) = true := by rw [hl0]; rfl
          have HP : RowKit.Hid (putT a o = o ++ [a.b]) := Lib.hid (by unfold putT; rw [if_pos hl0])
          rw [HP.out] at HX2 HT2
          have hd0 : a.d = 0 := by
            have h1 := HRR.out
            unfold refuse formed at h1
            rw [if_pos hl0] at h1
            by_cases h2 : a.d = 0
            · exact h2
            · rw [if_pos (decide_eq_false h2)] at h1; cases h1
          have d1x : decide (a.l < 0) = false := decide_eq_false (by omega)
          have d2x : (a.l == 1) = false := by rw [hl0]; rfl
          have d3x : (a.l == 2) = false := by rw [hl0]; rfl
          have d4x : decide (258 < a.l) = false := decide_eq_false (by omega)
          have d6x : (a.d == 0) = true := by rw [hd0]; rfl
          have d7x : decide (0 < a.l) = false := decide_eq_false (by omega)
          have d9x : decide (1048576 ≤ (o.length : Int)) = false := decide_eq_false (by omega)
          clear hl0 hd0
          have HB2 : RowKit.Hid (w.heap.size ≤ (wr.alloc (.cells #[U8 a.b, .int .i64 a.l, .int .i64 a.d] 31)).heap.size) := Lib.hid HI2.out.below.size
          have HL2 : RowKit.Hid (o.length + 1 ≤ 1000000) := Lib.hid (by omega)
          go_wp2_with (at_builtin; go_loud (refine push8H (wr.heap.size + 1) (wr.alloc (.cells #[U8 a.b, .int .i64 a.l, .int .i64 a.d] 31)) (by simp) rfl _ _ rfl w.heap.size (.slice Au o.length cu) o [a.b] _ 1 rfl rfl HI2.out.own rfl rfl HB2.out HL2.out ?_))
          intro v4 w4 ho4 hg4 hf4
          have HI4 := Lib.hid (HI2.out.push ho4 hg4)
          clear ho4 hg4 hf4 k0 k1 k2 HRW HI2
          go_wp2_with fail
          go_roundw
          case rel => exact ⟨k + 1, o ++ [a.b], by simp, by omega, HI4.out, HT2.out, HX2.out⟩
          case measure => simp [intOf]; omega
        · have d2 : (a.l == 0) = false := by rw [beq_eq_false_iff_ne]; exact hl0
          obtain ⟨b1, b2, b3, b4, b5, b6⟩ := HRO.out rfl hl0
          have d1x : decide (a.l < 0) = false := decide_eq_false (by omega)
          have d2x : (a.l == 1) = false := by rw [beq_eq_false_iff_ne]; omega
          have d3x : (a.l == 2) = false := by rw [beq_eq_false_iff_ne]; omega
          have d4x : decide (258 < a.l) = false := decide_eq_false (by omega)
          have d6x : (a.d == 0) = false := by rw [beq_eq_false_iff_ne]; omega
          have d7x : decide (0 < a.l) = true := decide_eq_true (by omega)
          have d8x : ((a.b.toNat : Int) != 0) = false := by rw [b6]; rfl
          have d9x : decide (a.d < 1) = false := decide_eq_false (by omega)
          have d10x : decide (32768 < a.d) = false := decide_eq_false (by omega)
          have d11x : decide ((o.length : Int) < a.d) = false := decide_eq_false (by omega)
          have d12x : decide (1048576 < (o.length : Int) + a.l) = false := decide_eq_false (by omega)
          obtain ⟨L, hL⟩ : ∃ L : Nat, a.l = (L : Int) := ⟨a.l.toNat, by omega⟩
          obtain ⟨D, hD⟩ : ∃ D : Nat, a.d = (D : Int) := ⟨a.d.toNat, by omega⟩
          have HP : RowKit.Hid (putT a o = copyN D L o) := Lib.hid (by unfold putT; rw [if_neg hl0, hL, hD]; rfl)
          rw [HP.out] at HX2 HT2
          have HLD : RowKit.Hid (3 ≤ L ∧ L ≤ 258 ∧ 1 ≤ D ∧ D ≤ o.length ∧ a.l = (L : Int) ∧ a.d = (D : Int)) := Lib.hid (by omega)
          clear b5 b6 hl0 hL hD HRO
          have HAP : RowKit.Hid (∀ b, (Value.slice Au o.length cu).ownBlock = some b → b ≠ wr.heap.size) := Lib.hid (fun b hb => by have := (World.ownsRow.lt HI.out.own _ hb).2; omega)
          go_wp2_with fail
          generalize wr.heap.size = G at HRW HAP k1 k2 ⊢
          go_loopw [4, 7] (fun u i wq => ∃ (j : Nat) (q : List UInt8), j ≤ L ∧ i = .int .i64 (j : Int) ∧ UI w wq u q ∧ q.length = o.length + j ∧ copyN D (L - j) q = copyN D L o ∧ Row wq G #[U8 a.b, .int .i64 a.l, .int .i64 a.d] 31 ∧ (∀ b, u.ownBlock = some b → b ≠ G)) (fun _ i _ => L - (intOf i).toNat)
          case atStart => exact ⟨0, o, Nat.zero_le _, rfl, HI2.out, rfl, rfl, HRW.out, HAP.out⟩
          case round =>
            clear HI2 k0 k1 k2 HRW HAP HI
            obtain ⟨j, q, hj, rfl, hJ, hq, hcp, hrow, hne⟩ := hrel
            obtain ⟨Aq, cq, rfl⟩ := hJ.own.slice
            obtain ⟨m, hm⟩ : ∃ m, o.length + j = m := ⟨_, rfl⟩
            rw [hm] at hq
            have HM := Lib.hid hm
            have HQ := Lib.hid hq
            have hDm : D ≤ m := by have := HLD.out; omega
            have hL258 : L ≤ 258 := HLD.out.2.1
            have hmo : m ≤ 900258 := by have := HLD.out; omega
            rw [hq] at hJ ⊢
            have HJ := Lib.hid hJ
            clear hm
            have HRW2 := Lib.hid hrow
            have HCP := Lib.hid hcp
            have HNE := Lib.hid hne
            have k2 : wr.cell? ⟨G, 2, none⟩ = some (.int .i64 a.d) := hrow.cell 2
            have k1 : wr.cell? ⟨G, 1, none⟩ = some (.int .i64 a.l) := hrow.cell 1
            have hd := HLD.out
            clear hJ hrow hcp hne
            by_cases hjl : j < L
            · have d3 : decide ((j : Int) < a.l) = true := decide_eq_true (by have := HLD.out; omega)
              have HRD := Lib.hid HJ.out.own.rd.2
              obtain ⟨P, hP⟩ : ∃ P, m - D = P := ⟨_, rfl⟩
              obtain ⟨gq, oq, rfl, hgq, hcq⟩ := HRD.out.byte (k := P) (by have := HLD.out; omega)
              have ct := hcq P (by have := HLD.out; omega)
              have eP : (m : Int) - a.d = (P : Int) := by have := HLD.out; omega
              have hPl : P < m := by have := HLD.out; omega
              obtain ⟨x, hx⟩ : ∃ x, q.getD P 0 = x := ⟨_, rfl⟩
              rw [hx] at ct
              have HCP2 : RowKit.Hid (copyN D (L - (j + 1)) (q ++ [x]) = copyN D L o) := Lib.hid (by rw [← HCP.out, show L - j = (L - (j + 1)) + 1 by omega, copyN_more, HQ.out, hP, hx])
              have HB2 : RowKit.Hid (w.heap.size ≤ wr.heap.size) := Lib.hid HJ.out.below.size
              have HL2 : RowKit.Hid (q.length + 1 ≤ 1000000) := Lib.hid (by rw [HQ.out]; omega)
              clear hcq hgq hx hd HCP hP hq
              go_wp2_with (at_builtin; refine push8 wr rfl _ _ rfl w.heap.size (.slice (some ⟨gq, oq, none⟩) m cq) q [x] _ 1 rfl rfl HJ.out.own rfl rfl HB2.out HL2.out ?_)
              intro v4 w4 ho4 hg4 hf4
              have HJ4 := Lib.hid (HJ.out.push ho4 hg4)
              have HRW4 : RowKit.Hid (Row w4 G #[U8 a.b, .int .i64 a.l, .int .i64 a.d] 31) := Lib.hid (HRW2.out.grown hg4 (fun e => HNE.out G e.symm rfl))
              have HNE4 : RowKit.Hid (∀ b, v4.ownBlock = some b → b ≠ G) := Lib.hid (fun b hb => by
                rcases hf4 with h | ⟨k', h, hk'⟩
                · exact HNE.out b (h ▸ hb)
                · rw [h] at hb
                  injection hb with hb
                  have := HRW2.out.lt
                  omega)
              clear ho4 hg4 hf4 k2 k1 ct
              go_wp2_with fail
              go_roundw
              case rel => exact ⟨j + 1, q ++ [x], by omega, by simp, HJ4.out, by have := HM.out; have := HQ.out; simp; omega, HCP2.out, HRW4.out, HNE4.out⟩
              case measure => simp [intOf]; omega
            · obtain rfl : j = L := by omega
              have d3 : decide ((j : Int) < a.l) = false := decide_eq_false (by have := HLD.out; omega)
              have hqe : q = copyN D j o := by rw [← HCP.out, Nat.sub_self]; rfl
              rw [← hqe] at HX2 HT2
              clear k2 hd HRW2 HNE HCP
              go_wp2_with fail
              go_roundw
              case rel => exact ⟨k + 1, q, by simp, by omega, HJ.out, HT2.out, HX2.out⟩
              case measure => simp [intOf]; omega
    · obtain rfl : k = n := by omega
      have d1 : decide ((k : Int) < (k : Int)) = false := decide_eq_false (by omega)
      have hl : l.length = k := HR.out.1
      have HX2 : RowKit.Hid (X = .ok o) := Lib.hid (by rw [← HD.out, List.drop_eq_nil_of_le (by omega)]; rfl)
      go_wp2_with fail
      go_ret2
      exact ⟨_, 0, rfl, HI.out.below, .inl ⟨rfl, o, HX2.out, HI.out.own⟩⟩
end Go.Proofs.Ytnadnokjhinmcaa
