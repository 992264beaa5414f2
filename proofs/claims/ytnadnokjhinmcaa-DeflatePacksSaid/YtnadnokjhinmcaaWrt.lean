
/- Contract of write. -/
import Derived.Test.YtnadnokjhinmcaaWri
import Derived.Deep.Cut
namespace Go.Proofs.Ytnadnokjhinmcaa
open Go.RowKit

set_option maxHeartbeats 2000000 in
theorem write_any (B g N L x n : Nat) (v : Value) (w : World) (hW : WS w B g v N L) (hB : B ≤ w.heap.size) (hx : x < 2 ^ n) (hn : n ≤ 32) (hL : L ≤ 7000000) :
    Calls Try.prog 72 #[.pointer (some ⟨g, 0, none⟩), .int .u32 (x : Int), .int .i64 (n : Int)] w fun e w' => e = .returned (.tuple #[]) ∧ ∃ v', WS w' B g v' (N + x * 2 ^ L) (L + n) ∧ St w g v w' v' := by
  have HN := Lib.hid (show N < 2 ^ L by obtain ⟨_, _, _, _, h⟩ := hW; exact h)
  have HXN := Lib.hid hx
  have HB := Lib.hid hB
  have HI : RowKit.Hid (WS w B g v (N + x % 2 ^ 0 * 2 ^ L) (L + 0) ∧ St w g v w v) := Lib.hid ⟨by simpa [Nat.mod_one] using hW, St.refl _ _ _⟩
  clear hx hB hW
  go_enter Try.func72, Try.ntmps72
  go_wp2_with fail
  go_loopw [1, 2] (fun xv nv wr => ∃ (k : Nat) (v' : Value), k ≤ n ∧ xv = .int .u32 ((x / 2 ^ k : Nat) : Int) ∧ nv = .int .i64 ((n - k : Nat) : Int) ∧ WS wr B g v' (N + x % 2 ^ k * 2 ^ L) (L + k) ∧ St w g v wr v') (fun _ nv _ => (intOf nv).toNat)
  case atStart => exact ⟨0, v, by omega, by simp, rfl, HI.out.1, HI.out.2⟩
  case round =>
    clear HI
    obtain ⟨k, v', hk, rfl, rfl, hW, hS⟩ := hrel
    obtain ⟨m, hm⟩ : ∃ m, n - k = m := ⟨_, rfl⟩
    rw [hm]
    by_cases hlt : 0 < m
    · have hd : decide (0 < (m : Int)) = true := decide_eq_true (by omega)
      obtain ⟨X, HX⟩ : ∃ X, RowKit.Hid (x / 2 ^ k = X) := ⟨_, Lib.hid rfl⟩
      rw [HX.out]
      obtain ⟨t, hW, hNt, hlen, _⟩ := hW
      obtain ⟨r, hr⟩ : ∃ r, 8 * t.length - (L + k) = r := ⟨_, rfl⟩
      rw [hr] at hW
      by_cases hr0 : r = 0
      · subst hr0
        have hc0 := hW.cell0
        have hc1 := hW.cell1
        have hfree : Own wr B v' t := hW.own
        have HW := Lib.hid hW
        have HS := Lib.hid hS
        have HNt := Lib.hid hNt
        have HLt := Lib.hid hlen
        have HR := Lib.hid hr
        clear hW hS hfree hNt hlen hr
        have hz : (((0 : Nat) : Int) == 0) = true := rfl
        go_wp2_with (at_builtin; refine push8 wr rfl (.tmp 18) (.tmp 19) rfl B v' t [0] _ 1 rfl rfl HW.out.own rfl rfl (Nat.le_trans HB.out HS.out.size) (by have := HLt.out; omega) ?_)
        intro v1 w1 ho hg hf
        obtain ⟨t1, ht1⟩ : ∃ t1, t ++ [0] = t1 := ⟨_, rfl⟩
        rw [ht1] at ho
        have hl1 : t1.length = t.length + 1 := by rw [← ht1]; simp
        have hN1 : numL t1 = N + x % 2 ^ k * 2 ^ L := by rw [← ht1, numL_append, HNt.out]; simp [numL]
        have hlen1 : 8 * t1.length - 8 = L + k ∧ t1.length ≤ 1000000 ∧ 0 < t1.length := by have := HR.out; have := HLt.out; omega
        have HK := Lib.hid (And.intro hN1 hlen1)
        obtain ⟨A1, c1, hv1⟩ := ho.slice
        obtain ⟨n1, hn1⟩ : ∃ n1, t1.length = n1 := ⟨_, rfl⟩
        rw [hn1] at hv1
        have HN1 := Lib.hid hn1
        subst hv1
        clear hN1 hlen1 hl1 ht1 hn1
        have hrow := HW.out.row.grown hg (Ne.symm HW.out.apart)
        have hap : (Value.slice A1 n1 c1).ownBlock ≠ some g := hf.not HW.out.row.lt HW.out.apart
        have hf0 := hrow.thawed 0
        have hf1 := hrow.thawed 1
        have hd0 : w1.cell? ⟨g, 0, none⟩ = some v' := hrow.cell 0
        have hd1 : w1.cell? ⟨g, 1, none⟩ = some (.int .i64 ((0 : Nat) : Int)) := hrow.cell 1
        have HWS := Lib.hid (And.intro ((Wr.set0 hrow ho hap).set1 8 8 rfl) (((HS.out.trans (St.ofOwn hg hf)).trans (St.ofRow (v := .slice A1 n1 c1) (grown_setCell w1 g 0 (.slice A1 n1 c1)))).trans (St.ofRow (v := .slice A1 n1 c1) (grown_setCell _ g 1 (.int .i64 8)))))
        have HRow := Lib.hid hrow
        clear ho hg hf hrow hap hc0 hc1 HW HS
        go_upto_region 4 with fail
        generalize (w1.setCell ⟨g, 0, none⟩ (.slice A1 n1 c1)).setCell ⟨g, 1, none⟩ (.int .i64 8) = w2 at HWS ⊢
        have hW1 := HWS.out.1
        have hS1 := HWS.out.2
        have hN1 := HK.out.1
        have hlen1 := HK.out.2
        clear HWS HRow HNt HLt HR hf0 hf1 HK hd0 hd1
        obtain ⟨R, hR1, hR8, hRe⟩ : ∃ R, 0 < R ∧ R ≤ 8 ∧ 8 = R := ⟨8, by decide, by decide, rfl⟩
        have hW1 : Wr w2 B g (.slice A1 n1 c1) t1 R := by rw [← hRe]; exact hW1
        have hlen1 : 8 * t1.length - R = L + k ∧ t1.length ≤ 1000000 ∧ 0 < t1.length := by rw [← hRe]; exact hlen1
        clear hRe
        obtain ⟨b, c2, _, hv, _, _⟩ := hW1.own.at8 (k := 0) (by omega)
        injection hv with e1 e2 e3
        subst e1 e3
        clear e2
        obtain rfl : n1 = t1.length := HN1.out.symm
        clear HN1
        obtain ⟨T, HT⟩ : ∃ T, RowKit.Hid (t1.length = T + 1) := ⟨t1.length - 1, Lib.hid (by omega)⟩
        obtain ⟨y, hy⟩ : ∃ y, t1[T]? = some y := ⟨_, List.getElem?_eq_getElem (by have := HT.out; omega)⟩
        rw [HT.out] at hW1 hS1 ⊢
        have hc0 := hW1.cell0
        have hc1 := hW1.cell1
        have hown := hW1.own
        unfold Own at hown
        rw [HT.out] at hown
        have hcb := World.ownsRow.cellAt hown T (by omega)
        have hfb := World.ownsRow.frozenAt hown T
        rw [show (us t1)[T]? = some (.int .u8 (y.toNat : Int)) by simp [us, hy]] at hcb
        clear hown
        have hTb : T ≤ 1000000 := by have := HT.out; omega
        have hs : (8 : Int) - (R : Int) = ((8 - R : Nat) : Int) := by omega
        obtain ⟨t2, hW2, hS2, hl2, hn2⟩ := hW1.fill (x := X) HT.out hy hR8 (P := L + k) (by have := HT.out; omega) (by rw [hN1]; exact part_lt N L x k HN.out)
        have HW2 := Lib.hid (And.intro hW2.drew (hS1.trans hS2).drew)
        have HL2 := Lib.hid hl2
        have HN2 := Lib.hid hn2
        have HLen := Lib.hid (show 8 * (T + 1) - R = L + k by have := HT.out; omega)
        have HN1 := Lib.hid hN1
        have HR8 := Lib.hid hlen1
        clear hW1 hW2 hS1 hS2 hl2 hn2 hy hlen1 hN1
        by_cases hnr : m ≤ R
        · go_wp2_with fail
          go_region
          generalize (World.setCell _ _ _).drew = w3 at HW2 ⊢
          have hc1 := HW2.out.1.cell1
          have hf1 := HW2.out.1.row.thawed 1
          have HW3 := Lib.hid (HW2.out.1.set1 (R - m) ((R : Int) - (m : Int)) (by omega))
          have HS3 := Lib.hid (HW2.out.2.trans (St.ofRow (v := .slice (some ⟨b, 0, none⟩) (T + 1) c1) (grown_setCell w3 g 1 (.int .i64 ((R : Int) - (m : Int))))))
          clear HW2 hc0 hcb hfb
          go_wp2_with fail
          go_roundw
          case rel =>
            refine ⟨k + m, _, by omega, ?_, ?_, ?_, HS3.out⟩
            · rw [Nat.pow_add, ← Nat.div_div_eq_div_mul, HX.out]; simp
            · congr 1; omega
            · have e2 : N + x % 2 ^ (k + m) * 2 ^ L = numL t2 := by rw [HN2.out, HN1.out, ← HX.out]; exact (fill_num N L x n k R m HXN.out hk (by omega)).symm
              have hl := HL2.out
              have hlen := HLen.out
              refine ⟨t2, ?_, e2.symm, by omega, part_lt N L x (k + m) HN.out⟩
              rw [hl, show 8 * (T + 1) - (L + (k + m)) = R - m by omega]
              exact HW3.out
          case measure => simp [intOf]; omega
        · go_wp2_with fail
          go_region
          generalize (World.setCell _ _ _).drew = w3 at HW2 ⊢
          have hc1 := HW2.out.1.cell1
          have hf1 := HW2.out.1.row.thawed 1
          have HW3 := Lib.hid (HW2.out.1.set1 (R - R) (0) (by omega))
          have HS3 := Lib.hid (HW2.out.2.trans (St.ofRow (v := .slice (some ⟨b, 0, none⟩) (T + 1) c1) (grown_setCell w3 g 1 (.int .i64 (0)))))
          clear HW2 hc0 hcb hfb
          go_wp2_with fail
          go_roundw
          case rel =>
            refine ⟨k + R, _, by omega, ?_, ?_, ?_, HS3.out⟩
            · rw [Nat.pow_add, ← Nat.div_div_eq_div_mul, HX.out]; simp
            · congr 1; omega
            · have e2 : N + x % 2 ^ (k + R) * 2 ^ L = numL t2 := by rw [HN2.out, HN1.out, ← HX.out]; exact (fill_num N L x n k R R HXN.out hk (by omega)).symm
              have hl := HL2.out
              have hlen := HLen.out
              refine ⟨t2, ?_, e2.symm, by omega, part_lt N L x (k + R) HN.out⟩
              rw [hl, show 8 * (T + 1) - (L + (k + R)) = R - R by omega]
              exact HW3.out
          case measure => simp [intOf]; omega
      · have hc1 := hW.cell1
        have hz : ((r : Int) == 0) = false := by rw [beq_eq_false_iff_ne]; omega
        have HW := Lib.hid (And.intro hW hS)
        have HNt := Lib.hid hNt
        have HLt := Lib.hid hlen
        have HR := Lib.hid hr
        have hr8 : r ≤ 8 := by omega
        have hr1 : 0 < r := by omega
        clear hW hS hNt hlen hr
        go_upto_region 4 with fail
        have hW1 := HW.out.1
        have hS1 := HW.out.2
        have hN1 := HNt.out
        obtain ⟨w1, hw1⟩ : ∃ w1, wr = w1 := ⟨_, rfl⟩
        have hlen1 : 8 * t.length - r = L + k ∧ t.length ≤ 1000000 ∧ 0 < t.length := by have := HR.out; have := HLt.out; omega
        rw [hw1] at hW1 hS1 ⊢
        clear HW HNt HLt HR hc1 hw1
        have hR1 := hr1
        have hR8 := hr8
        clear hr1 hr8
        obtain ⟨b, c2, _, rfl, _, _⟩ := hW1.own.at8 (k := 0) (by omega)
        obtain ⟨T, HT⟩ : ∃ T, RowKit.Hid (t.length = T + 1) := ⟨t.length - 1, Lib.hid (by omega)⟩
        obtain ⟨y, hy⟩ : ∃ y, t[T]? = some y := ⟨_, List.getElem?_eq_getElem (by have := HT.out; omega)⟩
        rw [HT.out] at hW1 hS1
        have hc0 := hW1.cell0
        have hc1 := hW1.cell1
        have hown := hW1.own
        unfold Own at hown
        rw [HT.out] at hown
        have hcb := World.ownsRow.cellAt hown T (by omega)
        have hfb := World.ownsRow.frozenAt hown T
        rw [show (us t)[T]? = some (.int .u8 (y.toNat : Int)) by simp [us, hy]] at hcb
        clear hown
        have hTb : T ≤ 1000000 := by have := HT.out; omega
        have hs : (8 : Int) - (r : Int) = ((8 - r : Nat) : Int) := by omega
        obtain ⟨t2, hW2, hS2, hl2, hn2⟩ := hW1.fill (x := X) HT.out hy hR8 (P := L + k) (by have := HT.out; omega) (by rw [hN1]; exact part_lt N L x k HN.out)
        have HW2 := Lib.hid (And.intro hW2.drew (hS1.trans hS2).drew)
        have HL2 := Lib.hid hl2
        have HN2 := Lib.hid hn2
        have HLen := Lib.hid (show 8 * (T + 1) - r = L + k by have := HT.out; omega)
        have HN1 := Lib.hid hN1
        have HR8 := Lib.hid hlen1
        clear hW1 hW2 hS1 hS2 hl2 hn2 hy hlen1 hN1
        by_cases hnr : m ≤ r
        · go_wp2_with fail
          go_region
          generalize (World.setCell _ _ _).drew = w3 at HW2 ⊢
          have hc1 := HW2.out.1.cell1
          have hf1 := HW2.out.1.row.thawed 1
          have HW3 := Lib.hid (HW2.out.1.set1 (r - m) ((r : Int) - (m : Int)) (by omega))
          have HS3 := Lib.hid (HW2.out.2.trans (St.ofRow (v := .slice (some ⟨b, 0, none⟩) (T + 1) c2) (grown_setCell w3 g 1 (.int .i64 ((r : Int) - (m : Int))))))
          clear HW2 hc0 hcb hfb
          go_wp2_with fail
          go_roundw
          case rel =>
            refine ⟨k + m, _, by omega, ?_, ?_, ?_, HS3.out⟩
            · rw [Nat.pow_add, ← Nat.div_div_eq_div_mul, HX.out]; simp
            · congr 1; omega
            · have e2 : N + x % 2 ^ (k + m) * 2 ^ L = numL t2 := by rw [HN2.out, HN1.out, ← HX.out]; exact (fill_num N L x n k r m HXN.out hk (by omega)).symm
              have hl := HL2.out
              have hlen := HLen.out
              refine ⟨t2, ?_, e2.symm, by omega, part_lt N L x (k + m) HN.out⟩
              rw [hl, show 8 * (T + 1) - (L + (k + m)) = r - m by omega]
              exact HW3.out
          case measure => simp [intOf]; omega
        · go_wp2_with fail
          go_region
          generalize (World.setCell _ _ _).drew = w3 at HW2 ⊢
          have hc1 := HW2.out.1.cell1
          have hf1 := HW2.out.1.row.thawed 1
          have HW3 := Lib.hid (HW2.out.1.set1 (r - r) (0) (by omega))
          have HS3 := Lib.hid (HW2.out.2.trans (St.ofRow (v := .slice (some ⟨b, 0, none⟩) (T + 1) c2) (grown_setCell w3 g 1 (.int .i64 (0)))))
          clear HW2 hc0 hcb hfb
          go_wp2_with fail
          go_roundw
          case rel =>
            refine ⟨k + r, _, by omega, ?_, ?_, ?_, HS3.out⟩
            · rw [Nat.pow_add, ← Nat.div_div_eq_div_mul, HX.out]; simp
            · congr 1; omega
            · have e2 : N + x % 2 ^ (k + r) * 2 ^ L = numL t2 := by rw [HN2.out, HN1.out, ← HX.out]; exact (fill_num N L x n k r r HXN.out hk (by omega)).symm
              have hl := HL2.out
              have hlen := HLen.out
              refine ⟨t2, ?_, e2.symm, by omega, part_lt N L x (k + r) HN.out⟩
              rw [hl, show 8 * (T + 1) - (L + (k + r)) = r - r by omega]
              exact HW3.out
          case measure => simp [intOf]; omega
    · have hkn : k = n := by omega
      subst hkn
      have hd : decide (0 < (m : Int)) = false := decide_eq_false (by omega)
      have HW := Lib.hid hW
      have HS := Lib.hid hS
      clear hW hS
      go_wp2_with fail
      refine bodyPost_end (results_none rfl _ _ _) rfl ?_
      refine ⟨rfl, _, ?_, HS.out⟩
      have := HW.out
      rwa [Nat.mod_eq_of_lt HXN.out] at this
end Go.Proofs.Ytnadnokjhinmcaa
