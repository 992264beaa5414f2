/- Contract of sha.words. -/
import Derived.Test.YtbklcelnnmhgkaaDoorRowLaw
import Derived.BigQuiet
import Derived.Deep.QuietTactic
import Derived.BigRegion
import Derived.Deep.Cut
namespace Go.Proofs.YtbklcelnnmhgkaaDoor
open Go.RowKit

def u32s (L : List UInt32) : Array Value := (L.map U32).toArray
def u8s (l : List UInt8) : Array Value := (us l).toArray
theorem u32s_size (L : List UInt32) : (u32s L).size = L.length := by simp [u32s]
theorem u8s_size (l : List UInt8) : (u8s l).size = l.length := by simp [u8s, us]
theorem u32s_set (L : List UInt32) (i : Nat) (v : UInt32) : (u32s L).setIfInBounds i (U32 v) = u32s (L.set i v) := by
  simp [u32s]
theorem u8s_set (L : List UInt8) (i : Nat) (v : UInt8) : (u8s L).setIfInBounds i (U8 v) = u8s (L.set i v) := by
  simp [u8s, us]
theorem u32s_at (L : List UInt32) (i : Nat) (h : i < L.length) : (u32s L)[i]? = some (U32 (nth L i)) := by
  simp [u32s, nth, List.getElem?_eq_getElem h]
theorem u8s_at (l : List UInt8) (i : Nat) (h : i < l.length) : (u8s l)[i]? = some (U8 (l.getD i 0)) := by
  simp [u8s, us, List.getElem?_eq_getElem h]
theorem u32s_one (L : List UInt32) : (u32s L).all (·.oneCell') = true := by
  rw [Array.all_eq_true_iff_forall_mem]; intro v hv
  simp [u32s] at hv
  obtain ⟨x, _, rfl⟩ := hv
  rfl
theorem u8s_one (l : List UInt8) : (u8s l).all (·.oneCell') = true := by
  rw [Array.all_eq_true_iff_forall_mem]; intro v hv
  simp [u8s, us] at hv
  obtain ⟨x, _, rfl⟩ := hv
  rfl

theorem info42 : (Tryd.prog.info? 53).map (fun i => (i.zero, i.size)) = some (some (.agg (u32s zeros)), 64) := by kernel_rfl
theorem size42 : (Tryd.prog.info? 53).map (·.size) = some 64 := by kernel_rfl
theorem size47 : (Tryd.prog.info? 67).map (·.size) = some 64 := by kernel_rfl

theorem run_index47 (w : World) (bc : Array Value) (k : Nat) (v : Value) (hk : k < 64) (hv : bc[k]? = some v) :
    (Instr.index 67 (.agg bc) (.int .i64 (k : Int))).run Tryd.prog w = .ok v w := by
  have ha : (isAgg 5).run Tryd.prog w = .ok false w := by unfold isAgg; rw [Sem.run_bind, run_underlying Tryd.underlying5 w]; rfl
  have hz : (sizeOf 5).run Tryd.prog w = .ok 1 w := by
    obtain ⟨i0, hi, _, hz1, _⟩ := info_parts info5
    simp [sizeOf, typeInfo, hi, hz1]
  simp only [Instr.index, asIntOf, Sem.run_bind, Sem.run_pure, Result.andThen_ok, run_underlying Tryd.underlying67]
  rw [if_pos ⟨by omega, by omega⟩]
  simp only [Sem.run_bind, hz, Result.andThen_ok, part, ha]
  simp [hv]

/-- What the loops of words keep: where the words stand, where the answer will stand. -/
structure WR (w : World) (gr gw : Nat) (L : List UInt32) (wr : World) : Prop where
  res : Row wr gr (u32s zeros) 53
  row : Row wr gw (u32s L) 53
  below : Below w.heap.size w wr
  len : L.length = 64

theorem WR.step {w : World} {gr gw : Nat} {L : List UInt32} {wr : World} (h : WR w gr gw L wr) (hne : gr ≠ gw) (hle : w.heap.size ≤ gw) (i : Nat) (v : UInt32) (n : Int) (hn : n = (v.toNat : Int)) :
    WR w gr gw (L.set i v) (wr.setCell ⟨gw, i, none⟩ (.int .u32 n)) := by
  subst hn
  refine ⟨h.res.other hne _ _, ?_, h.below.setCell hle _, by simp [h.len]⟩
  have := h.row.set i (U32 v)
  rwa [u32s_set] at this
theorem WR.drew {w : World} {gr gw : Nat} {L : List UInt32} {wr : World} (h : WR w gr gw L wr) : WR w gr gw L wr.drew := ⟨h.res, h.row, h.below.drew, h.len⟩

theorem WR.drewN {w : World} {gr gw : Nat} {L : List UInt32} {wr : World} (h : WR w gr gw L wr) (n : Nat) : WR w gr gw L (wr.drewN n) := ⟨h.res, h.row, ⟨h.below.os, h.below.tape, h.below.output, h.below.size, h.below.block⟩, h.len⟩

theorem fill_val (x : UInt32) (y : UInt8) : bits .or .u32 ((x.toNat : Int) * 256 % 4294967296) ((y.toNat : Int) % 4294967296) = ((shl x 8 ||| UInt32.ofNat y.toNat).toNat : Int) := by
  have h1 := shl32 x 8
  have h2 : (y.toNat : Int) % 4294967296 = ((UInt32.ofNat y.toNat).toNat : Int) := by
    have : y.toNat < 256 := y.toNat_lt
    rw [UInt32.toNat_ofNat']; omega
  rw [show (2 : Int) ^ 8 = 256 by decide] at h1
  rw [h1, h2, or32]

set_option maxHeartbeats 400000 in
theorem words_any (blk : List UInt8) (h : blk.length = 64) (w : World) : Calls Tryd.prog 41 #[.agg (u8s blk)] w fun e w' => e = .returned (.agg (u32s (wordsL blk))) ∧ Below w.heap.size w w' := by
  have hs : (u8s blk).size = 64 := by rw [u8s_size, h]
  have hat := u8s_at blk
  rw [h] at hat
  generalize u8s blk = bc at hs hat ⊢
  have HS := Lib.hid hs
  have HA := Lib.hid hat
  clear hs hat
  go_enter Tryd.func41, Tryd.ntmps41
  go_wp2_with (with_reducible refine at_box _ ?_; refine box_row rfl 67 _ rfl bc rfl ?_)
  intro w1 r1 g1 s1
  have R1 := Lib.hid r1
  have G1 := Lib.hid g1
  have S1 := Lib.hid s1
  clear r1 g1 s1
  go_wp2_with (with_reducible refine at_alloc _ ?_; refine alloc_row rfl 53 rfl _ 64 info42 ?_)
  intro w2 r2 g2 s2
  have R2 := Lib.hid r2
  have G2 := Lib.hid g2
  have S2 := Lib.hid s2
  clear r2 g2 s2
  go_wp2_with (with_reducible refine at_alloc _ ?_; refine alloc_row rfl 53 rfl _ 64 info42 ?_)
  intro w3 r3 g3 s3
  have R3 := Lib.hid r3
  have G3 := Lib.hid g3
  have S3 := Lib.hid s3
  clear r3 g3 s3
  go_wp2_with (with_reducible refine at_load _ ?_; refine load_row rfl 67 _ rfl w.heap.size rfl 67 bc _ ?_ Tryd.underlying67 rfl 64 size47 HS.out ?_)
  · exact (R1.out.grown G2.out (by simp)).grown G3.out (by simp)
  intro _
  go_wp2_with fail
  have hW : WR w w1.heap.size w2.heap.size zeros w3 := ⟨R2.out.grown G3.out (by simp), R3.out, ((below_make G1.out).grown G2.out (by have := G1.out.size; omega) (fun _ h => by cases h)).grown G3.out (by have := G1.out.size; have := G2.out.size; omega) (fun _ h => by cases h), rfl⟩
  have hne : w1.heap.size ≠ w2.heap.size := by have := S2.out; omega
  have hle1 : w.heap.size ≤ w1.heap.size := G1.out.size
  have hle2 : w.heap.size ≤ w2.heap.size := Nat.le_trans hle1 G2.out.size
  clear R1 R2 R3 G1 G2 G3 S1 S2 S3
  generalize w1.heap.size = gr at hW hne hle1 ⊢
  generalize w2.heap.size = gw at hW hne hle2 ⊢
  have NE := Lib.hid hne
  have LE1 := Lib.hid hle1
  have LE2 := Lib.hid hle2
  clear hne hle1 hle2
  go_loopw [12] (fun i wr => ∃ k : Nat, k ≤ 64 ∧ i = .int .i64 k ∧ WR w gr gw (upto (fillStep blk) k zeros) wr) (fun i _ => 64 - (intOf i).toNat)
  case atStart => exact ⟨0, by omega, rfl, hW⟩
  case round =>
    clear hW
    obtain ⟨k, hk, rfl, hW⟩ := hrel
    by_cases hlt : k < 64
    · have hx := HA.out k hlt
      have hc := hW.row.cell (k / 4)
      have hf := hW.row.thawed (k / 4)
      rw [u32s_at _ _ (by rw [hW.len]; omega)] at hc
      obtain ⟨x, HX⟩ : ∃ x, RowKit.Hid (nth (upto (fillStep blk) k zeros) (k / 4) = x) := ⟨_, Lib.hid rfl⟩
      obtain ⟨y, HY⟩ : ∃ y, RowKit.Hid (blk.getD k 0 = y) := ⟨_, Lib.hid rfl⟩
      rw [HX.out] at hc
      rw [HY.out] at hx
      have hin := run_index47 wr bc k _ hlt hx
      have HW := Lib.hid hW
      clear hW hx
      go_wp2_with fail
      go_roundw
      case rel => exact ⟨k + 1, by omega, by simp, by
        have := HW.out.step NE.out LE2.out (k / 4) (shl x 8 ||| UInt32.ofNat y.toNat) _ (fill_val x y)
        rw [← HX.out, ← HY.out] at this
        rw [← HX.out, ← HY.out]
        exact this⟩
      case measure => simp [intOf]; omega
    · have hk64 : k = 64 := by omega
      subst hk64
      rw [show ((64 : Nat) : Int) = 64 from rfl]
      clear hlt hk HA HS
      have HW := Lib.hid hW
      clear hW
      go_wp2_with fail
      go_loopw [6] (fun i wr => ∃ k : Nat, k ≤ 48 ∧ i = .int .i64 ((16 + k : Nat) : Int) ∧ WR w gr gw (upto (fun i => expStep (16 + i)) k (fillL blk)) wr) (fun i _ => 64 - (intOf i).toNat)
      case atStart => exact ⟨0, by omega, rfl, HW.out⟩
      case round =>
        clear HW
        obtain ⟨k, hk, rfl, hW⟩ := hrel
        obtain ⟨L, hL⟩ : ∃ L, upto (fun i => expStep (16 + i)) k (fillL blk) = L := ⟨_, rfl⟩
        rw [hL] at hW
        by_cases hlt : k < 48
        · obtain ⟨m, hm⟩ : ∃ m, 16 + k = m := ⟨_, rfl⟩
          rw [hm]
          have hm1 : 16 ≤ m := by omega
          have hm2 : m < 64 := by omega
          have HL := Lib.hid hL
          have HM := Lib.hid hm
          clear hL hm hlt hk
          have hc15 := hW.row.cell (m - 15)
          have hc2 := hW.row.cell (m - 2)
          have hc16 := hW.row.cell (m - 16)
          have hc7 := hW.row.cell (m - 7)
          have hc0 := hW.row.cell m
          rw [u32s_at _ _ (by rw [hW.len]; omega)] at hc15 hc2 hc16 hc7 hc0
          have hf := hW.row.thawed m
          obtain ⟨x15, H15⟩ : ∃ x, RowKit.Hid (nth L (m - 15) = x) := ⟨_, Lib.hid rfl⟩
          obtain ⟨x2, H2⟩ : ∃ x, RowKit.Hid (nth L (m - 2) = x) := ⟨_, Lib.hid rfl⟩
          obtain ⟨x16, H16⟩ : ∃ x, RowKit.Hid (nth L (m - 16) = x) := ⟨_, Lib.hid rfl⟩
          obtain ⟨x7, H7⟩ : ∃ x, RowKit.Hid (nth L (m - 7) = x) := ⟨_, Lib.hid rfl⟩
          rw [H15.out] at hc15
          rw [H2.out] at hc2
          rw [H16.out] at hc16
          rw [H7.out] at hc7
          have HW := Lib.hid hW
          clear hW
          go_wp2_with fail
          go_quiet (fail)
          have hW := HW.out.drewN nq
          clear HW hc15 hc2 hc16 hc7 hc0 hf
          generalize wr.drewN nq = wr at hW ⊢
          have hc16 := hW.row.cell (m - 16)
          have hc7 := hW.row.cell (m - 7)
          have hc0 := hW.row.cell m
          rw [u32s_at _ _ (by rw [hW.len]; omega)] at hc16 hc7 hc0
          have hf := hW.row.thawed m
          rw [H16.out] at hc16
          rw [H7.out] at hc7
          have HW := Lib.hid hW
          clear hW
          have hxor := rx32
          have hs3 : ∀ x : UInt32, (x.toNat : Int) / 8 = ((shr x 3).toNat : Int) := fun x => shr32 x 3
          have hs10 : ∀ x : UInt32, (x.toNat : Int) / 1024 = ((shr x 10).toNat : Int) := fun x => shr32 x 10
          have hadd := ra32
          have i1 : (0 : Int) ≤ (m : Int) - 16 := by omega
          have i2 : (m : Int) - 16 < 64 := by omega
          have i3 : (0 : Int) ≤ (m : Int) - 7 := by omega
          have i4 : (m : Int) - 7 < 64 := by omega
          have i5 : ((m : Int) - 16).toNat = m - 16 := by omega
          have i6 : ((m : Int) - 7).toNat = m - 7 := by omega
          go_wp2_with fail
          refine (right_7 x15 _).mono ?_
          rintro e w4 ⟨rfl, rfl⟩
          go_wp2_with fail
          refine (right_18 x15 _).mono ?_
          rintro e w4 ⟨rfl, rfl⟩
          go_wp2_with fail
          refine (right_17 x2 _).mono ?_
          rintro e w4 ⟨rfl, rfl⟩
          go_wp2_with fail
          refine (right_19 x2 _).mono ?_
          rintro e w4 ⟨rfl, rfl⟩
          go_wp2_with fail
          go_region
          go_wp2_with fail
          go_roundw
          case rel => exact ⟨k + 1, by have := HM.out; omega, by have := HM.out; congr 1; omega, by
            have hW := (HW.out.step NE.out LE2.out m (a32 (a32 (a32 x16 (x32 (x32 (rotr x15 7) (rotr x15 18)) (shr x15 3))) x7) (x32 (x32 (rotr x2 17) (rotr x2 19)) (shr x2 10))) _ rfl).drew
            have hL : upto (fun i => expStep (16 + i)) (k + 1) (fillL blk) = expStep (16 + k) L := by rw [← HL.out]; rfl
            rw [hL, HM.out]
            unfold expStep
            rw [H15.out, H2.out, H16.out, H7.out]
            exact hW⟩
          case measure => have := HM.out; simp [intOf]; omega
        · have hk48 : k = 48 := by omega
          subst hk48
          rw [show (((16 + 48 : Nat)) : Int) = 64 from rfl]
          have HLL : RowKit.Hid (wordsL blk = L) := hL
          clear hlt hk hL
          have hsz : (u32s L).size = 64 := by rw [u32s_size, hW.len]
          have HW := Lib.hid hW
          have HZ := Lib.hid hsz
          clear hW hsz
          go_upto_region 14 with fail
          go_step
          refine load_row rfl 53 _ rfl gw rfl 53 (u32s L) _ HW.out.row Tryd.underlying53 rfl 64 size42 HZ.out ?_
          intro _
          refine store_row rfl 53 _ _ rfl gr (u32s L) ?x1 ?x2 53 _ HW.out.res 64 size42 HZ.out ?x3 (u32s_one L) ?x4
          case x1 => rfl
          case x2 => rfl
          case x3 => exact u32s_size zeros
          case x4 =>
            intro w4 r4 g4 s4
            have HB := Lib.hid (HW.out.below.grown g4 (HW.out.below.size) (fun k h => by injection h with h; subst h; exact LE1.out))
            have R4 := Lib.hid r4
            clear r4 g4 s4
            go_wp2_with fail
            refine bodyPost_ret (v := .agg (u32s L)) ?_ rfl ⟨by rw [HLL.out], HB.out⟩
            exact results_cell_row rfl _ _ gr 53 (u32s L) (0, 0) _ rfl R4.out Tryd.underlying53 rfl (by rw [size42, HZ.out])
end Go.Proofs.YtbklcelnnmhgkaaDoor
