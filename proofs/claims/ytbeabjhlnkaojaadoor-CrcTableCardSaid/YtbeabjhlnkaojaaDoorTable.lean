/- Contracts of crc.Table and of the law CrcTable. -/
import Derived.Test.YtbeabjhlnkaojaaDoorRowLaw
import Derived.Test.YtbeabjhlnkaojaaDoorTells
namespace Go.Proofs.YtbeabjhlnkaojaaDoor
open Go.RowKit

theorem info31 : (Tryd.prog.info? 31).map (fun i => (i.zero, i.size)) = some (some (.agg (u32s (List.replicate 16 0))), 16) := by kernel_rfl
theorem size31 : (Tryd.prog.info? 31).map (·.size) = some 16 := by kernel_rfl
theorem tb_cells {w : World} (ht : Tabs w) : ∀ j v, (u32s TB).toList[j]? = some v → w.cell? ⟨0, 0 + j, none⟩ = some v := fun j v hv => by
  have hj : j < 16 := by have := (List.getElem?_eq_some_iff.1 hv).1; simpa [u32s, tb_len] using this
  rw [Nat.zero_add, ht.k j hj, ← hv, Array.getElem?_toList, u32s_at _ _ (by rw [tb_len]; exact hj)]

set_option maxHeartbeats 400000 in
theorem table_any (w : World) (ht : Tabs w) : Calls Tryd.prog 12 #[] w fun e w' => e = .returned (.agg (u32s TB)) ∧ Below w.heap.size w w' := by
  have HT := Lib.hid ht
  clear ht
  obtain ⟨L, HL⟩ : ∃ L, RowKit.Hid (u32s TB = L) := ⟨_, Lib.hid rfl⟩
  have HZ : RowKit.Hid (L.size = 16) := Lib.hid (by rw [← HL.out]; rfl)
  have HO : RowKit.Hid (L.all (·.oneCell') = true) := Lib.hid (by rw [← HL.out]; exact u32s_one _)
  rw [HL.out]
  go_enter Tryd.func12, Tryd.ntmps12
  go_upto_region 0 with fail
  go_step
  refine alloc_row rfl 31 rfl _ 16 info31 ?_
  intro w1 r1 g1 s1
  have ht1 : Tabs w1 := HT.out.below (below_make g1) HT.out.size
  go_upto_region 1 with fail
  go_step
  refine load_cells rfl 31 (.global 0) rfl 0 0 rfl L.toList _ Tryd.underlying31 rfl (by rw [size31, Array.length_toList, HZ.out]) (by rw [← HL.out]; exact tb_cells ht1) ?_
  intro _
  refine store_row rfl 31 _ _ rfl w.heap.size L rfl rfl 31 _ r1 16 size31 HZ.out (u32s_size _) HO.out ?_
  intro w2 r2 g2 s2
  have HB := Lib.hid ((below_make g1).grown g2 (by omega) (fun k h => by injection h with h; omega))
  have R2 := Lib.hid r2
  clear r1 r2 g1 g2 s1 s2 ht1
  go_wp2_with fail
  refine bodyPost_ret (v := .agg L) ?_ rfl ⟨rfl, HB.out⟩
  exact results_cell_row rfl _ _ w.heap.size 31 L (0, 0) _ rfl R2.out Tryd.underlying31 rfl (by rw [size31, HZ.out])

theorem rk32 (k : Nat) (hk : k < 16) : (k : Int) = ((UInt32.ofNat k).toNat : Int) := by
  rw [UInt32.toNat_ofNat']; omega
theorem low4_mod (x : UInt32) : (low4 x).toNat = x.toNat % 16 := by
  rw [low4, UInt32.toNat_and]
  exact Nat.and_two_pow_sub_one_eq_mod x.toNat 4
theorem nib_swap (x : UInt32) : x32 (nth TB (x.toNat % 16)) (quarter x) = nib x := by
  rw [nib, low4_mod]; exact UInt32.xor_comm _ _
theorem sum_one (x : UInt8) : addP 0 [x] = n32 (nib (nib (n32 (b32 x)))) := by
  have h : n32 (b32 x) = (~~~ (0 : UInt32)) ^^^ b32 x := by
    rw [UInt32.xor_comm]
    exact (turn_xor _).symm
  rw [h, byte_nib]
  rfl

set_option maxHeartbeats 400000 in
theorem tablelaw_any (x : UInt8) (w : World) (ht : Tabs w) : Calls Tryd.prog 6 #[.int .u8 (x.toNat : Int)] w fun e w' => e = .returned (.bool true) ∧ Below w.heap.size w w' := by
  have HT := Lib.hid ht
  clear ht
  go_enter Tryd.func6, Tryd.ntmps6
  go_wp2_with fail
  refine (alive_true w HT.out).mono ?_
  rintro e w1 ⟨rfl, hb1⟩
  have HT1 := Lib.hid (HT.out.below hb1 HT.out.size)
  have HB1 := Lib.hid hb1
  clear hb1
  go_wp2_with fail
  refine (table_any w1 HT1.out).mono ?_
  rintro e w2 ⟨rfl, hb2⟩
  have hb : Below w.heap.size w w2 := HB1.out.trans (hb2.mono HB1.out.size)
  obtain ⟨L, HL⟩ : ∃ L, RowKit.Hid (u32s TB = L) := ⟨_, Lib.hid rfl⟩
  have HZ : RowKit.Hid (L.size = 16) := Lib.hid (by rw [← HL.out]; rfl)
  have HO : RowKit.Hid (L.all (·.oneCell') = true) := Lib.hid (by rw [← HL.out]; exact u32s_one _)
  rw [HL.out]
  go_wp2_with (with_reducible refine halt_alloc 31 ?_)
  refine Lib.hid ?_
  refine alloc_row rfl 31 rfl _ 16 info31 ?_
  intro w3 r3 g3 s3
  refine store_row rfl 31 _ _ rfl w2.heap.size L rfl rfl 31 _ r3 16 size31 HZ.out (u32s_size _) HO.out ?_
  intro w4 r4 g4 s4
  have hb4 : Below w.heap.size w w4 := (hb.grown g3 hb.size (fun _ h => by cases h)).grown g4 (by have := hb.size; omega) (fun k h => by injection h with h; have := hb.size; omega)
  have hcs : ∀ i, i < 16 → w4.cell? ⟨w2.heap.size, i, none⟩ = some (U32 (nth TB i)) := fun i hi => by rw [r4.cell, ← HL.out, u32s_at _ _ hi]
  have HB := Lib.hid hb4
  have HC := Lib.hid hcs
  have HT4 := Lib.hid (HT.out.below hb4 HT.out.size)
  clear r3 g3 s3 r4 g4 s4 hb hb2 hb4 hcs HB1 HT1 HT HO HZ HL
  generalize w2.heap.size = g at HC ⊢
  go_wp2_with fail
  go_loopw [10] (fun i wr => ∃ k : Nat, k ≤ 16 ∧ i = .int .i64 k ∧ wr = w4) (fun i _ => 16 - (intOf i).toNat)
  case atStart => exact ⟨0, by omega, rfl, rfl⟩
  case round =>
    obtain ⟨k, hk, rfl, rfl⟩ := hrel
    by_cases hkt : k < 16
    · have hdk : decide ((k : Int) < 16) = true := decide_eq_true (by omega)
      have e0 := rk32 k hkt
      have hc := HC.out k hkt
      rw [tb_at ⟨k, hkt⟩] at hc
      replace hc : wr.cell? ⟨g, k, none⟩ = some (U32 (sn 4 (UInt32.ofNat k))) := hc
      obtain ⟨y0, HY0⟩ : ∃ y, RowKit.Hid (UInt32.ofNat k = y) := ⟨_, Lib.hid rfl⟩
      rw [HY0.out] at hc e0
      have HCC := Lib.hid hc
      have HE0 := Lib.hid e0
      clear hc e0
      go_wp2_with fail
      go_loopw [5, 15] (fun r i wr' => ∃ j : Nat, j ≤ 4 ∧ r = U32 (sn j y0) ∧ i = .int .i64 j ∧ wr' = wr) (fun _ i _ => 4 - (intOf i).toNat)
      case atStart => exact ⟨0, by omega, by show Value.int .u32 (k : Int) = Value.int .u32 (y0.toNat : Int); rw [HE0.out], rfl, rfl⟩
      case round =>
        obtain ⟨j, hj, rfl, rfl, rfl⟩ := hrel
        by_cases hjt : j < 4
        · have hdj : decide ((j : Int) < 4) = true := decide_eq_true (by omega)
          obtain ⟨y, HY⟩ : ∃ y, RowKit.Hid (sn j y0 = y) := ⟨_, Lib.hid rfl⟩
          have HS : RowKit.Hid (sn (j + 1) y0 = sh y) := Lib.hid (by rw [sn_succ, HY.out])
          rw [HY.out]
          have e3 := rh32 y
          have e4 := rp32 (half y)
          have e5 := ro32 y
          have e6 := rm32 (half y)
          cases ho : odd y with
          | true =>
            rw [ho] at e5
            have HE : RowKit.Hid (sh y = x32 (half y) poly) := Lib.hid (sh_odd y ho)
            clear ho
            go_wp2_with fail
            go_roundw
            case rel => exact ⟨j + 1, by omega, by rw [HS.out, HE.out], by simp, trivial⟩
            case measure => simp [intOf]; omega
          | false =>
            rw [ho] at e5
            have HE : RowKit.Hid (sh y = half y) := Lib.hid (sh_even y ho)
            clear ho
            go_wp2_with fail
            go_roundw
            case rel => exact ⟨j + 1, by omega, by rw [HS.out, HE.out], by simp, trivial⟩
            case measure => simp [intOf]; omega
        · have hj4 : j = 4 := by omega
          subst hj4
          have hdj : decide (((4 : Nat) : Int) < 4) = false := rfl
          have hc := HCC.out
          generalize sn 4 y0 = z at hc ⊢
          have hne : ((z.toNat : Int) != (z.toNat : Int)) = false := by simp
          go_wp2_with fail
          go_roundw
          case rel => exact ⟨k + 1, by omega, by simp, trivial⟩
          case measure => simp [intOf]; omega
    · have hk16 : k = 16 := by omega
      subst hk16
      have hdk : decide (((16 : Nat) : Int) < 16) = false := rfl
      have e0 := rb32 x
      have hs1 := sum_one x
      obtain ⟨r0, HR0⟩ : ∃ r, RowKit.Hid (n32 (b32 x) = r) := ⟨_, Lib.hid rfl⟩
      have e2 := rn32 (b32 x)
      rw [HR0.out] at e2 hs1
      have f2 := rq32 r0
      have f3 := rm32 (quarter r0)
      have f4 := rx32 (nth TB (r0.toNat % 16)) (quarter r0)
      rw [nib_swap] at f4
      have hc0 := HC.out (r0.toNat % 16) (by omega)
      obtain ⟨r1, HR1⟩ : ∃ r, RowKit.Hid (nib r0 = r) := ⟨_, Lib.hid rfl⟩
      rw [HR1.out] at f4 hs1
      have q2 := rq32 r1
      have q3 := rm32 (quarter r1)
      have q4 := rx32 (nth TB (r1.toNat % 16)) (quarter r1)
      rw [nib_swap] at q4
      have hc1 := HC.out (r1.toNat % 16) (by omega)
      obtain ⟨r2, HR2⟩ : ∃ r, RowKit.Hid (nib r1 = r) := ⟨_, Lib.hid rfl⟩
      rw [HR2.out] at q4 hs1
      have q5 := rn32 r2
      have HS1 := Lib.hid hs1
      clear hs1
      go_wp2_with fail
      have hb5 : Below wr.heap.size wr (wr.alloc (.cells #[.int .u8 (x.toNat : Int)] 5)) := (Below.refl _ _).alloc (Nat.le_refl _) _
      have hrd := Rd.laid wr #[.int .u8 (x.toNat : Int)] (0, 0) [x] 1 rfl rfl
      refine (of_any _ 1 1 [x] _ hrd (HT4.out.below hb5 HT4.out.size) (by decide)).mono ?_
      have HB5 := Lib.hid (HB.out.trans (hb5.mono HB.out.size))
      clear hrd hb5 HB hc0 hc1
      generalize wr.alloc (.cells #[.int .u8 (x.toNat : Int)] 5) = w6 at HB5 ⊢
      rintro e w7 ⟨rfl, rfl⟩
      rw [HS1.out]
      go_wp2_with fail
      go_ret
      exact ⟨rfl, HB5.out⟩

end Go.Proofs.YtbeabjhlnkaojaaDoor
