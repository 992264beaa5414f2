/- Contract of sha.mixed. -/
import Derived.Test.YtbklcelnnmhgkaaDoorWrd
namespace Go.Proofs.YtbklcelnnmhgkaaDoor
open Go.RowKit

theorem rn32 (x : UInt32) : bits .xor .u32 (if IntKind.u32.signed = true then -1 else IntKind.u32.max) (x.toNat : Int) = ((n32 x).toNat : Int) := by
  have h1 : (if IntKind.u32.signed = true then (-1 : Int) else IntKind.u32.max) = (((4294967295 : UInt32).toNat : Nat) : Int) := by decide
  rw [h1, xor32]
  congr 2

/-- The two tables stand as the text lays them. -/
structure Tabs (w : World) : Prop where
  k : ∀ i, i < 64 → w.cell? ⟨1, i, none⟩ = some (U32 (nth KT i))
  s : ∀ i, i < 8 → w.cell? ⟨0, i, none⟩ = some (U32 (nth S0.list i))
  size : 2 ≤ w.heap.size
theorem Tabs.below {w w' : World} {B : Nat} (h : Tabs w) (hb : Below B w w') (hB : 2 ≤ B) : Tabs w' :=
  ⟨fun i hi => (hb.cell (p := ⟨1, i, none⟩) (by show 1 < B; omega)).trans (h.k i hi), fun i hi => (hb.cell (p := ⟨0, i, none⟩) (by show 0 < B; omega)).trans (h.s i hi), Nat.le_trans h.size hb.size⟩
theorem Tabs.grown {w w' : World} {r : Option Nat} (h : Tabs w) (hg : w.grownBy w' r) (hr : ∀ k, r = some k → 2 ≤ k) : Tabs w' :=
  ⟨fun i hi => (World.cell?_of_block (w := w) (a := ⟨1, i, none⟩) (hg.block 1 (by have := h.size; omega) (fun e => by have := hr 1 e.symm; omega))).trans (h.k i hi),
   fun i hi => (World.cell?_of_block (w := w) (a := ⟨0, i, none⟩) (hg.block 0 (by have := h.size; omega) (fun e => by have := hr 0 e.symm; omega))).trans (h.s i hi), Nat.le_trans h.size hg.size⟩

theorem info41 : (Tryd.prog.info? 52).map (fun i => (i.zero, i.size)) = some (some (.agg (u32s (List.replicate 8 0))), 8) := by kernel_rfl
theorem size41 : (Tryd.prog.info? 52).map (·.size) = some 8 := by kernel_rfl
theorem list_len (s : S8) : s.list.length = 8 := rfl

/-- What the rounds keep. -/
structure MR (w : World) (g0 gr gw : Nat) (s : S8) (W : List UInt32) (wr : World) : Prop where
  st : Row wr g0 (u32s s.list) 52
  res : Row wr gr (u32s (List.replicate 8 0)) 52
  row : Row wr gw (u32s W) 53
  below : Below w.heap.size w wr
  len : W.length = 64
  tabs : Tabs wr
theorem MR.drewN {w : World} {g0 gr gw : Nat} {s : S8} {W : List UInt32} {wr : World} (h : MR w g0 gr gw s W wr) (n : Nat) : MR w g0 gr gw s W (wr.drewN n) :=
  ⟨h.st, h.res, h.row, ⟨h.below.os, h.below.tape, h.below.output, h.below.size, h.below.block⟩, h.len, ⟨h.tabs.k, h.tabs.s, h.tabs.size⟩⟩

theorem built41 (n0 n1 n2 n3 n4 n5 n6 n7 : Int) : Tryd.prog.built 52 [(0, .int .u32 n0), (1, .int .u32 n1), (2, .int .u32 n2), (3, .int .u32 n3), (4, .int .u32 n4), (5, .int .u32 n5), (6, .int .u32 n6), (7, .int .u32 n7)] =
    some #[.int .u32 n0, .int .u32 n1, .int .u32 n2, .int .u32 n3, .int .u32 n4, .int .u32 n5, .int .u32 n6, .int .u32 n7] := by kernel_rfl
theorem run_build41 (w : World) (n0 n1 n2 n3 n4 n5 n6 n7 : Int) : (Instr.build 52 #[(0, .int .u32 n0), (1, .int .u32 n1), (2, .int .u32 n2), (3, .int .u32 n3), (4, .int .u32 n4), (5, .int .u32 n5), (6, .int .u32 n6), (7, .int .u32 n7)]).run Tryd.prog w =
    .ok (.agg #[.int .u32 n0, .int .u32 n1, .int .u32 n2, .int .u32 n3, .int .u32 n4, .int .u32 n5, .int .u32 n6, .int .u32 n7]) w := run_build w 52 _ _ (built41 n0 n1 n2 n3 n4 n5 n6 n7)

theorem MR.cells {w : World} {g0 gr gw : Nat} {s : S8} {W : List UInt32} {wr : World} (h : MR w g0 gr gw s W wr) :
    wr.cell? ⟨g0, 0, none⟩ = some (U32 s.a) ∧ wr.cell? ⟨g0, 1, none⟩ = some (U32 s.b) ∧ wr.cell? ⟨g0, 2, none⟩ = some (U32 s.c) ∧ wr.cell? ⟨g0, 3, none⟩ = some (U32 s.d) ∧
    wr.cell? ⟨g0, 4, none⟩ = some (U32 s.e) ∧ wr.cell? ⟨g0, 5, none⟩ = some (U32 s.f) ∧ wr.cell? ⟨g0, 6, none⟩ = some (U32 s.g) ∧ wr.cell? ⟨g0, 7, none⟩ = some (U32 s.h) := by
  refine ⟨?_, ?_, ?_, ?_, ?_, ?_, ?_, ?_⟩ <;> (rw [h.st.cell]; rfl)

set_option maxHeartbeats 400000 in
theorem mixed_any (s : S8) (blk : List UInt8) (h : blk.length = 64) (w : World) (ht : Tabs w) :
    Calls Tryd.prog 37 #[.agg (u32s s.list), .agg (u8s blk)] w fun e w' => e = .returned (.agg (u32s (mixP s blk).list)) ∧ Below w.heap.size w w' := by
  have HT := Lib.hid ht
  have H := Lib.hid h
  clear ht h
  obtain ⟨sc, hsc⟩ : ∃ sc, u32s s.list = sc := ⟨_, rfl⟩
  obtain ⟨bc, hbc⟩ : ∃ bc, u8s blk = bc := ⟨_, rfl⟩
  rw [hsc, hbc]
  obtain ⟨W, HWW⟩ : ∃ W, RowKit.Hid (wordsL blk = W) := ⟨_, Lib.hid rfl⟩
  have HWL : RowKit.Hid (W.length = 64) := Lib.hid (by rw [← HWW.out]; exact exp_length blk 48)
  have HSC := Lib.hid hsc
  have HBC := Lib.hid hbc
  clear hsc hbc
  go_enter Tryd.func37, Tryd.ntmps37
  go_upto_region 0 with fail
  go_step
  set_option maxRecDepth 10000 in
  refine box_row rfl 52 _ rfl sc rfl ?_
  intro w1 r1 g1 s1
  set_option maxRecDepth 10000 in
  refine box_row rfl 67 _ rfl bc rfl ?_
  intro w2 r2 g2 s2
  set_option maxRecDepth 10000 in
  refine alloc_row rfl 52 rfl _ 8 info41 ?_
  intro w3 r3 g3 s3
  have hb3 : Below w.heap.size w w3 := ((below_make g1).grown g2 (by omega) (fun _ h => by cases h)).grown g3 (by omega) (fun _ h => by cases h)
  have h3s := (r1.grown g2 (by simp)).grown g3 (by simp)
  have h3b := r2.grown g3 (by simp)
  have HB3 := Lib.hid hb3
  have H3S := Lib.hid h3s
  have H3B := Lib.hid h3b
  have R3 := Lib.hid r3
  have SZ := Lib.hid (show w1.heap.size = w.heap.size + 1 ∧ w2.heap.size = w.heap.size + 2 ∧ w3.heap.size = w.heap.size + 3 by omega)
  clear hb3 h3s h3b r3 r1 r2 g1 g2 g3 s1 s2 s3
  go_upto_region 1 with fail
  go_step
  set_option maxRecDepth 10000 in
  refine load_row rfl 67 _ rfl w1.heap.size rfl 67 bc _ H3B.out Tryd.underlying67 rfl 64 size47 (by rw [← HBC.out, u8s_size, H.out]) ?_
  intro _
  go_wp2_with (first
    | (go_at_call 41; rw [← HBC.out]; refine (words_any blk H.out w3).mono ?_; rintro e w4 ⟨rfl, hb4⟩; rw [HWW.out]; have HB4 := Lib.hid hb4; clear hb4)
    | (with_reducible refine at_alloc _ ?_; refine alloc_row rfl 53 rfl _ 64 info42 ?_))
  intro w5 r5 g5 s5
  have hsz := SZ.out
  have h4 : w3.heap.size ≤ w4.heap.size := HB4.out.size
  have hst5 : Row w5 w.heap.size sc 52 := (H3S.out.below HB4.out (by omega)).grown g5 (by simp)
  have hres5 : Row w5 w2.heap.size (u32s (List.replicate 8 0)) 52 := (R3.out.below HB4.out (by omega)).grown g5 (by simp)
  have hb5 : Below w.heap.size w w5 := (HB3.out.trans (HB4.out.mono (by omega))).grown g5 (by omega) (fun _ h => by cases h)
  set_option maxRecDepth 10000 in
  refine store_row rfl 53 _ _ rfl w4.heap.size (u32s W) rfl rfl 53 _ r5 64 size42 (by rw [u32s_size, HWL.out]) (u32s_size zeros) (u32s_one W) ?_
  intro w6 r6 g6 s6
  have hM : MR w w.heap.size w2.heap.size w4.heap.size s W w6 := by
    have hb6 : Below w.heap.size w w6 := hb5.grown g6 (by omega) (fun k h => by injection h with h; omega)
    refine ⟨?_, hres5.grown g6 (by simp; omega), r6, hb6, HWL.out, HT.out.below hb6 HT.out.size⟩
    rw [HSC.out]
    exact hst5.grown g6 (by simp; omega)
  clear r5 g5 s5 r6 g6 s6 hst5 hres5 hb5 HB3 H3S H3B R3 HB4 h4 hsz
  have HM := Lib.hid hM
  clear hM
  have LE := Lib.hid (show w.heap.size ≤ w2.heap.size by have := SZ.out; omega)
  generalize w2.heap.size = gr at HM LE ⊢
  generalize w4.heap.size = gw at HM ⊢
  obtain ⟨c0, c1, c2, c3, c4, c5, c6, c7⟩ := HM.out.cells
  go_wp2_with fail
  go_quiet (fail)
  have hM := HM.out.drewN nq
  clear HM c0 c1 c2 c3 c4 c5 c6 c7
  generalize w6.drewN nq = w7 at hM ⊢
  clear nq w6
  obtain ⟨c0, c1, c2, c3, c4, c5, c6, c7⟩ := hM.cells
  have HM := Lib.hid hM
  clear hM
  go_wp2_with fail
  go_quiet (fail)
  have hM := HM.out.drewN nq
  clear HM c0 c1 c2 c3 c4 c5 c6 c7
  generalize w7.drewN nq = w8 at hM ⊢
  clear nq w7
  have HM := Lib.hid hM
  clear hM
  go_wp2_with fail
  go_loopw [6, 7, 8, 9, 10, 11, 12, 13, 37] (fun va vb vc vd ve vf vg vh i wr => ∃ (k : Nat) (a b c d e f g h : UInt32), k ≤ 64 ∧ i = .int .i64 k ∧ RowKit.Hid (upto (rnd W) k s = ⟨a, b, c, d, e, f, g, h⟩) ∧ va = U32 a ∧ vb = U32 b ∧ vc = U32 c ∧ vd = U32 d ∧ ve = U32 e ∧ vf = U32 f ∧ vg = U32 g ∧ vh = U32 h ∧ MR w w.heap.size gr gw s W wr) (fun _ _ _ _ _ _ _ _ i _ => 64 - (intOf i).toNat)
  case atStart => exact ⟨0, s.a, s.b, s.c, s.d, s.e, s.f, s.g, s.h, by omega, rfl, Lib.hid rfl, rfl, rfl, rfl, rfl, rfl, rfl, rfl, rfl, HM.out⟩
  case round =>
    clear HM
    obtain ⟨k, a, b, c, d, e, f, g, h, hk, rfl, HK, rfl, rfl, rfl, rfl, rfl, rfl, rfl, rfl, hM⟩ := hrel
    by_cases hlt : k < 64
    · have hck := hM.tabs.k k hlt
      have hcw := hM.row.cell k
      rw [u32s_at _ _ (by rw [hM.len]; omega)] at hcw
      obtain ⟨kk, HKK⟩ : ∃ x, RowKit.Hid (nth KT k = x) := ⟨_, Lib.hid rfl⟩
      obtain ⟨wk, HWK⟩ : ∃ x, RowKit.Hid (nth W k = x) := ⟨_, Lib.hid rfl⟩
      rw [HKK.out] at hck
      rw [HWK.out] at hcw
      have HM := Lib.hid hM
      clear hM
      have hxor := rx32
      have hand := rc32
      have hadd := ra32
      have hdk : decide ((k : Int) < 64) = true := decide_eq_true (by omega)
      have hnot := rn32
      go_upto_region 9 with fail
      go_quiet (first | (go_at_call 42; exact Calls.quiet_of_same (right_at _ _ rfl _)))
      simp only [ra32]
      have hM := HM.out.drewN nq
      clear HM hck hcw hnot
      generalize wr.drewN nq = wr at hM ⊢
      have HM := Lib.hid hM
      clear hM
      obtain ⟨tv, HTV⟩ : ∃ x, RowKit.Hid (a32 (a32 (a32 (a32 h (x32 (x32 (rotr e 6) (rotr e 11)) (rotr e 25))) (x32 (c32 e f) (c32 (n32 e) g))) kk) wk = x) := ⟨_, Lib.hid rfl⟩
      rw [HTV.out]
      go_wp2_with (first | (go_at_call 42; refine (right_at _ _ rfl _).mono ?_; rintro e w' ⟨rfl, rfl⟩))
      go_roundw
      case rel =>
        refine ⟨k + 1, a32 tv (a32 (x32 (x32 (rotr a 2) (rotr a 13)) (rotr a 22)) (x32 (x32 (c32 a b) (c32 a c)) (c32 b c))), a, b, c, a32 d tv, e, f, g, by omega, by simp, Lib.hid ?_, by rw [ra32], rfl, rfl, rfl, by rw [ra32], rfl, rfl, rfl, HM.out⟩
        show rnd W k (upto (rnd W) k s) = _
        rw [HK.out]
        unfold rnd
        rw [HKK.out, HWK.out, ← HTV.out]
        rfl
      case measure => simp [intOf]; omega
    · have hk64 : k = 64 := by omega
      subst hk64
      rw [show ((64 : Nat) : Int) = 64 from rfl]
      clear hlt hk
      obtain ⟨c0, c1, c2, c3, c4, c5, c6, c7⟩ := hM.cells
      have HM := Lib.hid hM
      clear hM
      have hadd := ra32
      have hbd := run_build41
      go_upto_region 13 with fail
      go_wp2_with (with_reducible refine halt_store 52 ?_)
      refine Lib.hid ?_
      set_option maxRecDepth 10000 in
      refine store_row rfl 52 _ _ rfl gr #[.int .u32 ((a32 s.a a).toNat : Int), .int .u32 ((a32 s.b b).toNat : Int), .int .u32 ((a32 s.c c).toNat : Int), .int .u32 ((a32 s.d d).toNat : Int), .int .u32 ((a32 s.e e).toNat : Int), .int .u32 ((a32 s.f f).toNat : Int), .int .u32 ((a32 s.g g).toNat : Int), .int .u32 ((a32 s.h h).toNat : Int)] ?x1 ?x2 52 _ HM.out.res 8 size41 ?x3 ?x4 ?x5 ?x6
      case x1 => rfl
      case x3 => rfl
      case x4 => rfl
      case x5 => exact u32s_one [a32 s.a a, a32 s.b b, a32 s.c c, a32 s.d d, a32 s.e e, a32 s.f f, a32 s.g g, a32 s.h h]
      case x2 => set_option maxRecDepth 10000 in rfl
      case x6 =>
        intro w9 r9 g9 s9
        have HB := Lib.hid (HM.out.below.grown g9 (HM.out.below.size) (fun k h => by injection h with h; subst h; exact LE.out))
        have R9 := Lib.hid r9
        clear r9 g9 s9
        go_wp2_with fail
        refine bodyPost_ret (v := .agg (u32s (mixP s blk).list)) ?_ rfl ⟨rfl, HB.out⟩
        have hm : mixP s blk = s.add ⟨a, b, c, d, e, f, g, h⟩ := by unfold mixP; rw [HWW.out, HK.out]
        rw [hm]
        exact results_cell_row rfl _ _ gr 52 _ (0, 0) _ rfl R9.out Tryd.underlying52 rfl size41
end Go.Proofs.YtbklcelnnmhgkaaDoor
