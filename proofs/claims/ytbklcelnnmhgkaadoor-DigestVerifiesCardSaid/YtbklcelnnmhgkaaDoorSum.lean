/- Contract of Sum. -/
import Derived.Test.YtbklcelnnmhgkaaDoorWrt
import Derived.Test.YtbklcelnnmhgkaaDoorNew
import Derived.Test.YtbklcelnnmhgkaaDoorFil
namespace Go.Proofs.YtbklcelnnmhgkaaDoor
open Go.RowKit

theorem Own.rdN {w : World} {B g : Nat} {A : Option Addr} {n c : Nat} {l : List UInt8} (h : Own w B (.slice A n c) l) (hg : g < B) : RdN w g A n (us l) ∧ n = l.length := by
  obtain ⟨hn, hr⟩ := h.rd
  refine ⟨⟨hr.1, fun h0 => ?_⟩, hn⟩
  obtain ⟨b, o, hA, hb, hc⟩ := hr.2 h0
  refine ⟨b, o, hA, ?_, hb, hc⟩
  rcases h.2 with ⟨hv, hz⟩ | ⟨b', cap, cur, hv, hB, _⟩
  · injection hv with h1 h2 h3; omega
  · injection hv with h1 h2 h3
    rw [hA] at h1
    injection h1 with h1
    injection h1 with h1
    omega

/-- One byte of the answer is laid. -/
def outS (s : S8) (m : Nat) (L : List UInt8) : List UInt8 := L.set m (byteOf (nth s.list (m / 4)) (m % 4))
theorem out_length (s : S8) (n : Nat) : (upto (outS s) n (List.replicate 32 0)).length = 32 := by
  induction n with
  | zero => rfl
  | succ n ih => show (outS s n (upto (outS s) n (List.replicate 32 0))).length = 32; rw [outS, List.length_set, ih]
theorem out_eq (s : S8) : upto (outS s) 32 (List.replicate 32 0) = outL s := by
  obtain ⟨a, b, c, d, e, f, g, h⟩ := s
  kernel_rfl
theorem byte_val (x : UInt32) (j : Nat) : (x.toNat : Int) / 2 ^ (24 - 8 * j) % 256 = ((byteOf x j).toNat : Int) := by
  unfold byteOf
  rw [UInt8.toNat_ofNat']
  have h1 : ((2 : Int) ^ (24 - 8 * j)) = ((2 ^ (24 - 8 * j) : Nat) : Int) := by simp
  rw [h1, ← Int.natCast_ediv]
  generalize x.toNat / 2 ^ (24 - 8 * j) = q
  omega

theorem info25 : (Tryd.prog.info? 24).map (fun i => (i.zero, i.size)) = some (some (.agg (u8s (List.replicate 32 0))), 32) := by kernel_rfl
theorem size25 : (Tryd.prog.info? 24).map (·.size) = some 32 := by kernel_rfl
theorem info49 : (Tryd.prog.info? 69).map (fun i => (i.zero, i.size)) = some (some (.agg (hcells ⟨⟨0, 0, 0, 0, 0, 0, 0, 0⟩, List.replicate 64 0, 0⟩)), 73) := by kernel_rfl
theorem run_index41 (w : World) (bc : Array Value) (k : Nat) (v : Value) (hk : k < 8) (hv : bc[k]? = some v) :
    (Instr.index 52 (.agg bc) (.int .i64 (k : Int))).run Tryd.prog w = .ok v w := by
  have ha : (isAgg 51).run Tryd.prog w = .ok false w := by unfold isAgg; rw [Sem.run_bind, run_underlying Tryd.underlying51 w]; rfl
  have hz : (sizeOf 51).run Tryd.prog w = .ok 1 w := by
    have h1 : (Tryd.prog.info? 51).map (fun i => (i.zero, i.size, i.bytes)) = some (some (.int .u32 0), 1, 4) := by kernel_rfl
    obtain ⟨i0, hi, _, hz1, _⟩ := info_parts h1
    simp [sizeOf, typeInfo, hi, hz1]
  simp only [Instr.index, asIntOf, Sem.run_bind, Sem.run_pure, Result.andThen_ok, run_underlying Tryd.underlying52]
  rw [if_pos ⟨by omega, by omega⟩]
  simp only [Sem.run_bind, hz, Result.andThen_ok, part, ha]
  simp [hv]

/-- What the loops of Sum keep. -/
structure SR (w : World) (gr go : Nat) (L : List UInt8) (wr : World) : Prop where
  res : Row wr gr (u8s (List.replicate 32 0)) 24
  row : Row wr go (u8s L) 24
  below : Below w.heap.size w wr
  len : L.length = 32
theorem SR.step {w : World} {gr go : Nat} {L : List UInt8} {wr : World} (h : SR w gr go L wr) (hne : gr ≠ go) (hle : w.heap.size ≤ go) (i : Nat) (v : UInt8) (n : Int) (hn : n = (v.toNat : Int)) :
    SR w gr go (L.set i v) (wr.setCell ⟨go, i, none⟩ (.int .u8 n)) := by
  subst hn
  refine ⟨h.res.other hne _ _, ?_, h.below.setCell hle _, by simp [h.len]⟩
  have := h.row.set i (U8 v)
  rwa [u8s_set] at this

set_option maxHeartbeats 400000 in
theorem sum_any (g : Nat) (h : HS) (w : World) (hh : HashAt w g h) (ht : Tabs w) (hn : h.n ≤ 900000) :
    Calls Tryd.prog 33 #[.pointer (some ⟨g, 0, none⟩)] w fun e w' => e = .returned (.agg (u8s (sumP h))) ∧ Below w.heap.size w w' := by
  have hcn := hh.row.cell 72
  rw [hcells_n _ hh.len] at hcn
  have hgl := hh.row.lt
  have HH := Lib.hid hh
  have HT := Lib.hid ht
  have HN := Lib.hid hn
  clear hh ht hn
  go_enter Tryd.func33, Tryd.ntmps33
  go_upto_region 0 with fail
  go_step
  refine alloc_row rfl 24 rfl _ 32 info25 ?_
  intro w1 r1 g1 s1
  have HH1 := HH.out.row.grown g1 (by simp)
  have hsz := hcells_size h HH.out.len
  obtain ⟨hc, Hhc⟩ : ∃ x, RowKit.Hid (hcells h = x) := ⟨_, Lib.hid rfl⟩
  rw [Hhc.out] at HH1 hsz
  go_upto_region 3 with fail
  go_wp2_with (with_reducible refine halt_load 69 ?_)
  refine Lib.hid ?_
  refine load_row rfl 69 _ rfl g rfl 69 hc _ HH1 Tryd.underlying69 rfl 73 size49 hsz ?_
  intro _
  refine alloc_row rfl 69 rfl _ 73 info49 ?_
  intro w2 r2 g2 s2
  refine store_row rfl 69 _ _ rfl w1.heap.size hc rfl rfl 69 _ r2 73 size49 hsz (hcells_size _ rfl) (by rw [← Hhc.out]; exact hcells_all h) ?_
  intro w3 r3 g3 s3
  have hcn3 : w3.cell? ⟨g, 72, none⟩ = some (.int .i64 (h.n : Int)) := by
    have h1 := ((HH1.grown g2 (by simp)).grown g3 (by simp; omega)).cell 72
    rw [h1, ← Hhc.out, hcells_n _ HH.out.len]
  have hr3 : Row w3 w.heap.size (u8s (List.replicate 32 0)) 24 := (r1.grown g2 (by simp)).grown g3 (by simp; omega)
  have hb3 : Below w.heap.size w w3 := ((below_make g1).grown g2 (by omega) (fun _ h => by cases h)).grown g3 (by omega) (fun k h => by injection h with h; omega)
  have hh3 : HashAt w3 w1.heap.size h := ⟨by rw [Hhc.out]; exact r3, HH.out.len⟩
  have ht3 : Tabs w3 := HT.out.below hb3 HT.out.size
  have hg1 : w1.heap.size = w.heap.size + 1 := s1
  have h3s : w3.heap.size = w.heap.size + 2 := by omega
  generalize w1.heap.size = gf at hh3 hg1 ⊢
  have HR3 := Lib.hid hr3
  have HB3 := Lib.hid hb3
  have HH3 := Lib.hid hh3
  have HT3 := Lib.hid ht3
  have HGF := Lib.hid hg1
  have H3S := Lib.hid h3s
  clear r1 g1 s1 HH1 hsz r2 g2 s2 r3 g3 s3 hr3 hb3 hh3 ht3 hg1 h3s hcn
  go_wp2_with (first
    | (go_at_call 38; refine (filling_any h.n w3 (by have := HN.out; omega)).mono ?_; rintro e w4 ⟨v, rfl, hG⟩; obtain ⟨A, c, rfl⟩ := hG.own.slice; have HG := Lib.hid hG; clear hG))
  have hgf := HGF.out
  have h3s := H3S.out
  have hr4 := HR3.out.below HG.out.below (by omega)
  have hb4 : Below w.heap.size w w4 := HB3.out.trans (HG.out.below.mono (by omega))
  have hh4 : HashAt w4 gf h := ⟨HH3.out.row.below HG.out.below (by omega), HH3.out.len⟩
  have ht4 : Tabs w4 := HT3.out.below HG.out.below (by have := HT.out.size; omega)
  have hrd := (HG.out.own.rdN (g := gf) (by omega)).1
  have hfl : (fillP h.n).length ≤ 80 := by
    unfold fillP
    rw [List.length_append, List.length_cons, List.length_replicate, tail8_length]
    have := gap_lt h.n
    omega
  have h4s := HG.out.size
  refine (write_any gf A _ c (fillP h.n) h w4 hh4 hrd ht4 (by have := HT.out.size; omega) (by have := HN.out; omega)).mono ?_
  rintro e w5 ⟨rfl, hh5, hg5⟩
  have hr5 := hr4.grown hg5 (by simp; omega)
  have hb5 : Below w.heap.size w w5 := hb4.grown hg5 (by omega) (fun k h => by injection h with h; omega)
  have h5s : w3.heap.size ≤ w5.heap.size := Nat.le_trans h4s hg5.size
  obtain ⟨h', H'⟩ : ∃ h', RowKit.Hid (puts h (fillP h.n) = h') := ⟨_, Lib.hid rfl⟩
  rw [H'.out] at hh5
  have HR5 := Lib.hid hr5
  have HB5 := Lib.hid hb5
  have HH5 := Lib.hid hh5
  have H5S := Lib.hid (show gf < w5.heap.size ∧ w.heap.size < w5.heap.size by omega)
  clear hgf h3s hr4 hb4 hh4 ht4 hrd hfl h4s hr5 hb5 hh5 h5s hg5 HR3 HB3 HH3 HT3 HGF H3S HG hcn3
  go_wp2_with (with_reducible refine halt_alloc 24 ?_)
  refine Lib.hid ?_
  refine alloc_row rfl 24 rfl _ 32 info25 ?_
  intro w6 r6 g6 s6
  have hS : SR w w.heap.size w5.heap.size (List.replicate 32 0) w6 := ⟨HR5.out.grown g6 (by simp), r6, HB5.out.grown g6 (by have := H5S.out; omega) (fun _ h => by cases h), rfl⟩
  have hh6 : Row w6 gf (hcells h') 69 := HH5.out.row.grown g6 (by simp)
  have LT := H5S.out.2
  generalize w5.heap.size = go at hS LT ⊢
  have HS := Lib.hid hS
  have HLT := Lib.hid LT
  have HH6 := Lib.hid hh6
  clear r6 g6 s6 hS hh6 LT H5S HR5 HB5 HH5
  go_wp2_with (with_reducible refine halt_load 52 ?_)
  refine Lib.hid ?_
  refine load_seg rfl 52 _ rfl gf 0 rfl 69 (hcells h') (u32s h'.st.list).toList _ HH6.out Tryd.underlying52 rfl (sz_st h') (seg_st h') ?_
  intro _
  obtain ⟨sc, hsc⟩ : ∃ sc, (u32s h'.st.list).toList.toArray = sc := ⟨_, rfl⟩
  have hat : ∀ i, i < 8 → sc[i]? = some (U32 (nth h'.st.list i)) := fun i hi => by
    rw [← hsc, Array.toArray_toList, u32s_at _ _ (by rw [list_len]; exact hi)]
  rw [hsc]
  have HAT := Lib.hid hat
  clear hsc hat HH6
  obtain ⟨s, Hs⟩ : ∃ s, RowKit.Hid (h'.st = s) := ⟨_, Lib.hid rfl⟩
  rw [Hs.out] at HAT
  have hS := HS.out
  clear HS
  go_wp2_with fail
  go_loopw [23] (fun i wr => ∃ k : Nat, k ≤ 8 ∧ i = .int .i64 k ∧ SR w w.heap.size go (upto (outS s) (4 * k) (List.replicate 32 0)) wr) (fun i _ => 8 - (intOf i).toNat)
  case atStart => exact ⟨0, by omega, rfl, hS⟩
  case round =>
    clear hS
    obtain ⟨k, hk, rfl, hS⟩ := hrel
    by_cases hlt : k < 8
    · have hdk : decide ((k : Int) < 8) = true := decide_eq_true (by omega)
      obtain ⟨x, HX⟩ : ∃ x, RowKit.Hid (nth s.list k = x) := ⟨_, Lib.hid rfl⟩
      have hx := HAT.out k hlt
      rw [HX.out] at hx
      have hin := run_index41 wr sc k _ hlt hx
      have HS := Lib.hid hS
      clear hS hx
      go_wp2_with fail
      clear hin
      go_loopw [27] (fun i wr => ∃ j : Nat, j ≤ 4 ∧ i = .int .i64 j ∧ SR w w.heap.size go (upto (outS s) (4 * k + j) (List.replicate 32 0)) wr) (fun i _ => 4 - (intOf i).toNat)
      case atStart => exact ⟨0, by omega, rfl, HS.out⟩
      case round =>
        clear HS
        obtain ⟨j, hj, rfl, hS⟩ := hrel
        by_cases hl4 : j < 4
        · have hd4 : decide ((j : Int) < 4) = true := decide_eq_true (by omega)
          have hc0 := hS.row.cell (4 * k + j)
          rw [u8s_at _ _ (by rw [hS.len]; omega)] at hc0
          have hf := hS.row.thawed (4 * k + j)
          have hv := byte_val x j
          obtain ⟨y, HY⟩ : ∃ y, RowKit.Hid (byteOf x j = y) := ⟨_, Lib.hid rfl⟩
          rw [HY.out] at hv
          have HS := Lib.hid hS
          clear hS
          go_wp2_with fail
          go_roundw
          case rel => exact ⟨j + 1, by omega, by simp, by
            show SR w w.heap.size go (outS s (4 * k + j) (upto (outS s) (4 * k + j) (List.replicate 32 0))) _
            unfold outS
            rw [show (4 * k + j) / 4 = k by omega, show (4 * k + j) % 4 = j by omega, HX.out, HY.out]
            exact HS.out.step (by have := HLT.out; omega) (by have := HLT.out; omega) _ y _ rfl⟩
          case measure => simp [intOf]; omega
        · have hj4 : j = 4 := by omega
          subst hj4
          have hd4 : decide (((4 : Nat) : Int) < 4) = false := rfl
          have HS := Lib.hid hS
          clear hS
          go_wp2_with fail
          go_roundw
          case rel => exact ⟨k + 1, by omega, by simp, by
            rw [show 4 * (k + 1) = 4 * k + 4 by omega]
            exact HS.out⟩
          case measure => simp [intOf]; omega
    · have hk8 : k = 8 := by omega
      subst hk8
      have hdk : decide (((8 : Nat) : Int) < 8) = false := rfl
      have hS : SR w w.heap.size go (outL s) wr := by
        have := hS
        rwa [show 4 * 8 = 32 by decide, out_eq] at this
      have HO : RowKit.Hid (sumP h = outL s) := Lib.hid (by unfold sumP; rw [H'.out, Hs.out])
      have hsz : (u8s (outL s)).size = 32 := by rw [u8s_size, outL_length]
      have hone := u8s_one (outL s)
      generalize outL s = L at hS HO hsz hone
      have HS := Lib.hid hS
      have HZ := Lib.hid hsz
      have HONE := Lib.hid hone
      clear hS hsz hone
      go_upto_region 15 with fail
      go_step
      refine load_row rfl 24 _ rfl go rfl 24 (u8s L) _ HS.out.row Tryd.underlying24 rfl 32 size25 HZ.out ?_
      intro _
      refine store_row rfl 24 _ _ rfl w.heap.size (u8s L) ?x1 ?x2 24 _ HS.out.res 32 size25 HZ.out ?x3 HONE.out ?x4
      case x1 => rfl
      case x2 => rfl
      case x3 => exact u8s_size _
      case x4 =>
        intro w9 r9 g9 s9
        have HB := Lib.hid (HS.out.below.grown g9 HS.out.below.size (fun k h => by injection h with h; omega))
        have R9 := Lib.hid r9
        clear r9 g9 s9
        go_wp2_with fail
        refine bodyPost_ret (v := .agg (u8s L)) ?_ rfl ⟨by rw [HO.out], HB.out⟩
        exact results_cell_row rfl _ _ w.heap.size 24 (u8s L) (0, 0) _ rfl R9.out Tryd.underlying24 rfl (by rw [size25, HZ.out])

set_option maxHeartbeats 400000 in
theorem sum_nil (w : World) (ht : Tabs w) :
    Calls Tryd.prog 33 #[.pointer none] w fun e w' => e = .returned (.agg (u8s (ofP []))) ∧ Below w.heap.size w w' := by
  have HT := Lib.hid ht
  clear ht
  go_enter Tryd.func33, Tryd.ntmps33
  go_upto_region 0 with fail
  go_step
  refine alloc_row rfl 24 rfl _ 32 info25 ?_
  intro w1 r1 g1 s1
  have ht1 : Tabs w1 := HT.out.grown g1 (fun _ h => by cases h)
  have HT1 := Lib.hid ht1
  have R1 := Lib.hid r1
  have G1 := Lib.hid g1
  have S1 := Lib.hid s1
  clear ht1 r1 g1 s1
  obtain ⟨L, hL⟩ : ∃ L, ofP [] = L := ⟨_, rfl⟩
  have hsz : (u8s L).size = 32 := by rw [← hL]; rfl
  have hone := u8s_one L
  have HL := Lib.hid hL
  have HZ := Lib.hid hsz
  have HONE := Lib.hid hone
  clear hL hsz hone
  go_wp2_with (first
    | (go_at_call 31; refine (new_any w1 HT1.out).mono ?_; rintro e w2 ⟨rfl, hh2, hg2⟩; have HH2 := Lib.hid hh2; have HG2 := Lib.hid hg2; clear hh2 hg2)
    | (go_at_call 33; refine (sum_any w1.heap.size H0 w2 HH2.out (HT1.out.grown HG2.out (fun _ h => by cases h)) (by decide)).mono ?_; rintro e w3 ⟨rfl, hb3⟩; have HB3 := Lib.hid hb3; clear hb3; rw [show sumP H0 = L from HL.out])
    | (with_reducible refine halt_store 24 ?_))
  refine Lib.hid ?_
  have h2s := HG2.out.size
  have h1s := S1.out
  have hr3 := (R1.out.grown HG2.out (by simp)).below HB3.out (by omega)
  have hb3 : Below w.heap.size w w3 := ((below_make G1.out).grown HG2.out (by omega) (fun _ h => by cases h)).trans (HB3.out.mono (by omega))
  refine store_row rfl 24 _ _ rfl w.heap.size (u8s L) ?x1 ?x2 24 _ hr3 32 size25 HZ.out ?x3 HONE.out ?x4
  case x1 => rfl
  case x2 => rfl
  case x3 => exact u8s_size _
  case x4 =>
    intro w9 r9 g9 s9
    have HB := Lib.hid (hb3.grown g9 hb3.size (fun k h => by injection h with h; omega))
    have R9 := Lib.hid r9
    clear r9 g9 s9 hr3 hb3 h2s h1s
    go_wp2_with fail
    refine bodyPost_ret (v := .agg (u8s L)) ?_ rfl ⟨by rw [HL.out], HB.out⟩
    exact results_cell_row rfl _ _ w.heap.size 24 (u8s L) (0, 0) _ rfl R9.out Tryd.underlying24 rfl (by rw [size25, HZ.out])
end Go.Proofs.YtbklcelnnmhgkaaDoor
