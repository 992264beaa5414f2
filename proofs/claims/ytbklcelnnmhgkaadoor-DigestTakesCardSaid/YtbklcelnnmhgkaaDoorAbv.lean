/- Contracts of the reference's right and above. -/
import Derived.Test.YtbklcelnnmhgkaaDoorMix
import Derived.Test.YtbklcelnnmhgkaaDoorNew
import Derived.Test.YtbklcelnnmhgkaaDoorRefP
namespace Go.Proofs.YtbklcelnnmhgkaaDoor
open Go.RowKit

set_option maxHeartbeats 400000 in
theorem rright_at (x : UInt32) (n : Int) (h : okI n = true) (w : World) : Calls Tryd.prog 30 #[U32 x, .int .u64 n] w fun e w' => e = .returned (U32 (rotr x n.toNat)) ∧ w' = w := by
  simp only [okI, Bool.and_eq_true, decide_eq_true_eq] at h
  obtain ⟨s, rfl⟩ : ∃ k : Nat, n = (k : Int) := ⟨n.toNat, by omega⟩
  obtain ⟨r, hr⟩ : ∃ r, 32 - s = r := ⟨_, rfl⟩
  have e1 : (x.toNat : Int) * 2 ^ min r 32 % 4294967296 = ((shl x r).toNat : Int) := by rw [show min r 32 = r by omega]; exact shl32 x r
  have e2 : (x.toNat : Int) / 2 ^ min s 32 = ((shr x s).toNat : Int) := by rw [show min s 32 = s by omega]; exact shr32 x s
  have e3 : IntKind.u64.wrap (32 - (s : Int)) = (r : Int) := by rw [IntKind.wrap_u64]; omega
  have e4 := or32 (shr x s) (shl x r)
  have e5 : shr x s ||| shl x r = rotr x s := by unfold rotr; rw [hr, UInt32.or_comm]
  rw [e5] at e4
  rw [Int.toNat_natCast]
  have H := Lib.hid h
  have HR := Lib.hid hr
  clear h hr e5
  go_enter Tryd.func30, Tryd.ntmps30
  go_wp2_with fail
  go_ret
  exact ⟨rfl, rfl⟩

abbrev U64 (x : Nat) : Value := .int .u64 (x : Int)
def u64s (L : List Nat) : Array Value := (L.map U64).toArray
theorem u64s_size (L : List Nat) : (u64s L).size = L.length := by simp [u64s]
theorem u64s_at (L : List Nat) (i : Nat) (h : i < L.length) : (u64s L)[i]? = some (U64 (nthN L i)) := by
  simp [u64s, nthN, List.getElem?_eq_getElem h]
theorem u64s_set (L : List Nat) (i : Nat) (v : Nat) : (u64s L).setIfInBounds i (U64 v) = u64s (L.set i v) := by simp [u64s]
theorem u64s_one (L : List Nat) : (u64s L).all (·.oneCell') = true := by
  rw [Array.all_eq_true_iff_forall_mem]; intro v hv
  simp [u64s] at hv
  obtain ⟨x, _, rfl⟩ := hv
  rfl
theorem info55 : (Tryd.prog.info? 73).map (fun i => (i.zero, i.size)) = some (some (.agg (u64s zero5)), 5) := by kernel_rfl
theorem size55 : (Tryd.prog.info? 73).map (·.size) = some 5 := by kernel_rfl
theorem built55 (n0 n1 n2 n3 n4 : Int) : Tryd.prog.built 73 [(0, .int .u64 n0), (1, .int .u64 n1), (2, .int .u64 n2), (3, .int .u64 n3), (4, .int .u64 n4)] = some #[.int .u64 n0, .int .u64 n1, .int .u64 n2, .int .u64 n3, .int .u64 n4] := by kernel_rfl
theorem built55z : Tryd.prog.built 73 [] = some (u64s zero5) := by kernel_rfl

theorem raN (x y : Nat) : IntKind.u64.wrap ((x : Int) + (y : Int)) = ((aN x y : Nat) : Int) := by rw [IntKind.wrap_u64]; unfold aN; omega
theorem rmN (x y : Nat) : IntKind.u64.wrap ((x : Int) * (y : Int)) = ((mN x y : Nat) : Int) := by
  unfold mN
  have : (x : Int) * (y : Int) = ((x * y : Nat) : Int) := by simp
  rw [IntKind.wrap_u64, this]; omega
theorem rhN (x : Nat) : (x : Int) / 4294967296 = ((hiN x : Nat) : Int) := by unfold hiN; omega
theorem rlN (x : Nat) : (x : Int) % 4294967296 = ((lowN x : Nat) : Int) := by unfold lowN; omega
theorem rwN (x : Nat) : bits .and .u64 (x : Int) 4294967295 = ((lowN x : Nat) : Int) := by
  show IntKind.u64.wrap ((BitVec.ofInt 64 (x : Int) &&& BitVec.ofInt 64 4294967295).toNat : Int) = _
  rw [BitVec.ofInt_natCast, BitVec.toNat_and, BitVec.toNat_ofNat, show (BitVec.ofInt 64 4294967295).toNat = 2 ^ 32 - 1 by decide, Nat.and_two_pow_sub_one_eq_mod, IntKind.wrap_u64]
  unfold lowN
  omega
theorem inner_len (a c : List Nat) (i n : Nat) (s : List Nat × Nat) : (upto (innerP a c i) n s).1.length = s.1.length := by
  induction n with
  | zero => rfl
  | succ n ih => show (innerP a c i n (upto (innerP a c i) n s)).1.length = _; rw [innerP, List.length_set, ih]
theorem mid_len (a c : List Nat) (n : Nat) (l : List Nat) : (upto (midP a c) n l).length = l.length := by
  induction n with
  | zero => rfl
  | succ n ih =>
    have h1 : ∀ i m, (midP a c i m).length = m.length := fun i m => by
      unfold midP lastP inner
      split
      · rw [List.length_set, inner_len]
      · rw [inner_len]
    show (midP a c n (upto (midP a c) n l)).length = _
    rw [h1, ih]
theorem pow_len (x k : Nat) : (powP x k).length = 5 := by
  cases k with
  | zero => rfl
  | succ k => show (mulP _ _).length = 5; unfold mulP; rw [mid_len]; rfl

/-- What the loops of above keep: where the limbs stand. -/
structure AR (w : World) (ga gc : Nat) (a c : List Nat) (wr : World) : Prop where
  ra : Row wr ga (u64s a) 73
  rc : Row wr gc (u64s c) 73
  below : Below w.heap.size w wr
theorem AR.drewN {w : World} {ga gc : Nat} {a c : List Nat} {wr : World} (h : AR w ga gc a c wr) (n : Nat) : AR w ga gc a c (wr.drewN n) := ⟨h.ra, h.rc, ⟨h.below.os, h.below.tape, h.below.output, h.below.size, h.below.block⟩⟩
/-- And the limbs that are made. -/
structure BR (w : World) (ga gc gn : Nat) (a c d : List Nat) (wr : World) : Prop where
  ar : AR w ga gc a c wr
  rn : Row wr gn (u64s d) 73
theorem BR.drewN {w : World} {ga gc gn : Nat} {a c d : List Nat} {wr : World} (h : BR w ga gc gn a c d wr) (n : Nat) : BR w ga gc gn a c d (wr.drewN n) := ⟨h.ar.drewN n, h.rn⟩
theorem BR.step {w : World} {ga gc gn : Nat} {a c d : List Nat} {wr : World} (h : BR w ga gc gn a c d wr) (h1 : ga ≠ gn) (h2 : gc ≠ gn) (h3 : w.heap.size ≤ gn) (i v : Nat) (n : Int) (hn : n = (v : Int)) :
    BR w ga gc gn a c (d.set i v) (wr.setCell ⟨gn, i, none⟩ (.int .u64 n)) := by
  subst hn
  refine ⟨⟨h.ar.ra.other h1 _ _, h.ar.rc.other h2 _ _, h.ar.below.setCell h3 _⟩, ?_⟩
  have := h.rn.set i (U64 v)
  rwa [u64s_set] at this

theorem aN_lt (x y : Nat) : aN x y < 18446744073709551616 := by unfold aN; omega

set_option maxHeartbeats 1600000 in
theorem above_any (x n : Nat) (w : World) : Calls Tryd.prog 36 #[U64 x, U64 n] w fun e w' => e = .returned (.bool (aboveP x n)) ∧ Below w.heap.size w w' := by
  have hlow := rwN
  have hhi := rhN
  obtain ⟨la, HLA⟩ : ∃ l, RowKit.Hid (limbs x = l) := ⟨_, Lib.hid rfl⟩
  have HLN : RowKit.Hid (la.length = 5) := Lib.hid (by rw [← HLA.out]; rfl)
  go_enter Tryd.func36, Tryd.ntmps36
  go_upto_region 1 with fail
  go_wp2_with (with_reducible refine halt_alloc 73 ?_)
  refine Lib.hid ?_
  refine alloc_row rfl 73 rfl _ 5 info55 ?_
  intro w1 r1 g1 s1
  refine store_row rfl 73 _ _ rfl w.heap.size (u64s (limbs x)) rfl ?x2 73 _ r1 5 size55 (by rw [u64s_size]; rfl) (by rw [u64s_size]; rfl) (u64s_one _) ?x4
  case x2 => rfl
  intro w2 r2 g2 s2
  rw [HLA.out] at r2
  go_wp2_with (with_reducible refine halt_alloc 73 ?_)
  refine Lib.hid ?_
  refine alloc_row rfl 73 rfl _ 5 info55 ?_
  intro w3 r3 g3 s3
  refine store_row rfl 73 _ _ rfl w2.heap.size (u64s [1, 0, 0, 0, 0]) rfl ?y2 73 _ r3 5 size55 (by rw [u64s_size]; rfl) (by rw [u64s_size]; rfl) (u64s_one _) ?y4
  case y2 => rfl
  intro w4 r4 g4 s4
  have hA : AR w w.heap.size w2.heap.size la [1, 0, 0, 0, 0] w4 := by
    refine ⟨(r2.grown g3 (by simp)).grown g4 (by simp; omega), r4, (((below_make g1).grown g2 (by omega) (fun k h => by injection h with h; omega)).grown g3 (by omega) (fun _ h => by cases h)).grown g4 (by omega) (fun k h => by injection h with h; omega)⟩
  have hgc : w2.heap.size = w.heap.size + 1 := by omega
  generalize w2.heap.size = gc at hA hgc ⊢
  obtain ⟨ga, hga⟩ : ∃ ga, w.heap.size = ga := ⟨_, rfl⟩
  have HGC := Lib.hid hgc
  have HA := Lib.hid hA
  clear hA hgc r1 g1 s1 r2 g2 s2 r3 g3 s3 r4 g4 s4 hga
  go_wp2_with fail
  go_loopw [7] (fun i wr => ∃ k : Nat, k ≤ 3 ∧ i = .int .i64 k ∧ AR w w.heap.size gc la (powP x k) wr) (fun i _ => 3 - (intOf i).toNat)
  case atStart => exact ⟨0, by omega, rfl, HA.out⟩
  case round =>
    clear HA
    obtain ⟨k, hk, rfl, hA⟩ := hrel
    obtain ⟨c, Hc⟩ : ∃ c, RowKit.Hid (powP x k = c) := ⟨_, Lib.hid rfl⟩
    rw [Hc.out] at hA
    have HCL : RowKit.Hid (c.length = 5) := Lib.hid (by rw [← Hc.out]; exact pow_len x k)
    by_cases hlt : k < 3
    · have hdk : decide ((k : Int) < 3) = true := decide_eq_true (by omega)
      have HA := Lib.hid hA
      clear hA
      go_wp2_with (with_reducible refine halt_alloc 73 ?_)
      refine Lib.hid ?_
      refine alloc_row rfl 73 rfl _ 5 info55 ?_
      intro w1 r1 g1 s1
      refine store_row rfl 73 _ _ rfl wr.heap.size (u64s zero5) rfl ?z2 73 _ r1 5 size55 (by rw [u64s_size]; rfl) (by rw [u64s_size]; rfl) (u64s_one _) ?z4
      case z2 => rfl
      intro w2 r2 g2 s2
      have hsz := HA.out.below.size
      have hgc := HGC.out
      have hB : BR w w.heap.size gc wr.heap.size la c zero5 w2 := by
        have := HA.out.rc.lt
        have := HA.out.ra.lt
        exact ⟨⟨(HA.out.ra.grown g1 (by simp)).grown g2 (by simp; omega), (HA.out.rc.grown g1 (by simp)).grown g2 (by simp; omega), (HA.out.below.grown g1 hsz (fun _ h => by cases h)).grown g2 (by omega) (fun k h => by injection h with h; omega)⟩, r2⟩
      have hgn : gc < wr.heap.size ∧ w.heap.size < wr.heap.size := ⟨HA.out.rc.lt, HA.out.ra.lt⟩
      generalize wr.heap.size = gn at hB hgn ⊢
      have HGN := Lib.hid hgn
      have HB := Lib.hid hB
      clear hB hgn r1 g1 s1 r2 g2 s2 hsz hgc HA
      go_wp2_with fail
      go_loopw [9] (fun i wr => ∃ k : Nat, k ≤ 5 ∧ i = .int .i64 k ∧ BR w w.heap.size gc gn la c (upto (midP la c) k zero5) wr) (fun i _ => 5 - (intOf i).toNat)
      case atStart => exact ⟨0, by omega, rfl, HB.out⟩
      case round =>
        clear HB
        obtain ⟨i, hi, rfl, hB⟩ := hrel
        obtain ⟨d, Hd⟩ : ∃ d, RowKit.Hid (upto (midP la c) i zero5 = d) := ⟨_, Lib.hid rfl⟩
        rw [Hd.out] at hB
        have HDL : RowKit.Hid (d.length = 5) := Lib.hid (by rw [← Hd.out, mid_len]; rfl)
        by_cases hl5 : i < 5
        · have hdi : decide ((i : Int) < 5) = true := decide_eq_true (by omega)
          have HB := Lib.hid hB
          clear hB
          go_wp2_with fail
          go_loopw [10, 11] (fun cv jv wr => ∃ (j cr : Nat) (nx : List Nat), j ≤ min 2 (5 - i) ∧ jv = .int .i64 j ∧ cv = .int .u64 (cr : Int) ∧ RowKit.Hid (upto (innerP la c i) j (d, 0) = (nx, cr)) ∧ BR w w.heap.size gc gn la c nx wr) (fun _ jv _ => 2 - (intOf jv).toNat)
          case atStart => exact ⟨0, 0, d, by omega, rfl, rfl, Lib.hid rfl, HB.out⟩
          case round =>
            clear HB
            obtain ⟨j, cr, nx, hj, rfl, rfl, HU, hB⟩ := hrel
            have HNL : RowKit.Hid (nx.length = 5) := Lib.hid (by have h1 := inner_len la c i j (d, 0); rw [HU.out] at h1; exact h1.trans HDL.out)
            by_cases hc : j < 2 ∧ i + j < 5
            · have hd2 : decide ((j : Int) < 2) = true := decide_eq_true (by omega)
              have hij : decide ((i : Int) + (j : Int) < 5) = true := decide_eq_true (by omega)
              have hij1 : (i : Int) + (j : Int) < 5 := by omega
              have hj2 : (j : Int) < 2 := by omega
              have c1 := hB.rn.cell (i + j)
              rw [u64s_at _ _ (by rw [HNL.out]; omega)] at c1
              have c2 := hB.ar.rc.cell i
              rw [u64s_at _ _ (by rw [HCL.out]; omega)] at c2
              have c3 := hB.ar.ra.cell j
              rw [u64s_at _ _ (by rw [HLN.out]; omega)] at c3
              obtain ⟨v1, H1⟩ : ∃ v, RowKit.Hid (nthN nx (i + j) = v) := ⟨_, Lib.hid rfl⟩
              obtain ⟨v2, H2⟩ : ∃ v, RowKit.Hid (nthN c i = v) := ⟨_, Lib.hid rfl⟩
              obtain ⟨v3, H3⟩ : ∃ v, RowKit.Hid (nthN la j = v) := ⟨_, Lib.hid rfl⟩
              rw [H1.out] at c1
              rw [H2.out] at c2
              rw [H3.out] at c3
              have HB := Lib.hid hB
              have HC := Lib.hid hc
              clear hB hc
              have hadd := raN
              have hmul := rmN
              go_wp2_with fail
              go_quiet (fail)
              have hB := HB.out.drewN nq
              clear HB c1 c2 c3
              generalize wr.drewN nq = wr at hB ⊢
              obtain ⟨v, HV⟩ : ∃ v, RowKit.Hid (aN (aN v1 (mN v2 v3)) cr = v) := ⟨_, Lib.hid rfl⟩
              rw [HV.out]
              have c1 := hB.rn.cell (i + j)
              rw [u64s_at _ _ (by rw [HNL.out]; have := HC.out; omega)] at c1
              have f1 := hB.rn.thawed (i + j)
              have HB := Lib.hid hB
              clear hB hadd hmul
              go_wp2_with fail
              go_roundw
              case rel =>
                have h1 := HC.out
                refine ⟨j + 1, hiN v, nx.set (i + j) (lowN v), by omega, by simp, rfl, Lib.hid ?_, HB.out.step (by have := HGN.out; omega) (by have := HGN.out; omega) (by have := HGN.out; omega) _ _ _ rfl⟩
                show innerP la c i j (upto (innerP la c i) j (d, 0)) = _
                rw [HU.out]
                unfold innerP limbP
                rw [H1.out, H2.out, H3.out, HV.out]
              case measure => have h1 := HC.out; simp [intOf]; omega
            · have hjm : j = min 2 (5 - i) := by omega
              have HI : RowKit.Hid (inner la c i d = (nx, cr)) := Lib.hid (by unfold inner; rw [← hjm]; exact HU.out)
              by_cases h25 : i + 2 < 5
              · have hj2 : j = 2 := by omega
                subst hj2
                have hd2 : decide (((2 : Nat) : Int) < 2) = false := rfl
                have hd3 : decide ((i : Int) + 2 < 5) = true := decide_eq_true (by omega)
                have c1 := hB.rn.cell (i + 2)
                rw [u64s_at _ _ (by rw [HNL.out]; omega)] at c1
                have f1 := hB.rn.thawed (i + 2)
                have hadd := raN
                have HB := Lib.hid hB
                have H25 := Lib.hid h25
                clear hB hc hj hjm
                go_wp2_with fail
                go_roundw
                case rel =>
                  have h1 := H25.out
                  refine ⟨i + 1, by omega, by simp, ?_⟩
                  show BR w w.heap.size gc gn la c (midP la c i (upto (midP la c) i zero5)) _
                  rw [Hd.out]
                  unfold midP lastP
                  rw [HI.out, if_pos h1]
                  exact HB.out.step (by have := HGN.out; omega) (by have := HGN.out; omega) (by have := HGN.out; omega) _ _ _ rfl
                case measure => simp [intOf]; omega
              · have hd3 : decide ((i : Int) + 2 < 5) = false := decide_eq_false (by omega)
                have hrel2 : BR w w.heap.size gc gn la c (upto (midP la c) (i + 1) zero5) wr := by
                  show BR w w.heap.size gc gn la c (midP la c i (upto (midP la c) i zero5)) _
                  rw [Hd.out]
                  unfold midP lastP
                  rw [HI.out, if_neg h25]
                  exact hB
                have HB := Lib.hid hrel2
                clear hB hrel2 HI HU
                by_cases hj2 : j = 2
                · subst hj2
                  have hd2 : decide (((2 : Nat) : Int) < 2) = false := rfl
                  clear hc hj hjm
                  go_wp2_with fail
                  go_roundw
                  case rel => exact ⟨i + 1, by omega, by simp, HB.out⟩
                  case measure => simp [intOf]; omega
                · have hj1 : j = 1 := by omega
                  have hi4 : i = 4 := by omega
                  subst hj1 hi4
                  have hd2 : decide (((1 : Nat) : Int) < 2) = true := rfl
                  have hd4 : decide (((4 : Nat) : Int) + ((1 : Nat) : Int) < 5) = false := rfl
                  clear hc hj hjm
                  go_wp2_with fail
                  go_roundw
                  case rel => exact ⟨5, by omega, by simp, HB.out⟩
                  case measure => simp [intOf]
        · have hi5 : i = 5 := by omega
          subst hi5
          have hdi : decide (((5 : Nat) : Int) < 5) = false := rfl
          have HM : RowKit.Hid (powP x (k + 1) = d) := Lib.hid (by show mulP (limbs x) (powP x k) = d; rw [Hc.out, HLA.out]; exact Hd.out)
          have HZ : RowKit.Hid ((u64s d).size = 5) := Lib.hid (by rw [u64s_size, HDL.out])
          have HZC : RowKit.Hid ((u64s c).size = 5) := Lib.hid (by rw [u64s_size, HCL.out])
          have HB := Lib.hid hB
          clear hB
          go_wp2_with (with_reducible refine halt_load 73 ?_)
          refine Lib.hid ?_
          refine load_row rfl 73 _ rfl gn rfl 73 (u64s d) _ HB.out.rn Tryd.underlying73 rfl 5 size55 HZ.out ?_
          intro _
          refine store_row rfl 73 _ _ rfl gc (u64s d) rfl rfl 73 _ HB.out.ar.rc 5 size55 HZ.out HZC.out (u64s_one d) ?_
          intro w5 r5 g5 s5
          have hg := HGN.out
          have hgc := HGC.out
          have HA5 : RowKit.Hid (AR w w.heap.size gc la d w5) := Lib.hid ⟨HB.out.ar.ra.grown g5 (by simp; omega), r5, HB.out.ar.below.grown g5 HB.out.ar.below.size (fun k h => by injection h with h; omega)⟩
          clear r5 g5 s5 hg hgc
          go_wp2_with fail
          go_roundw
          case rel => exact ⟨k + 1, by omega, by simp, by rw [HM.out]; exact HA5.out⟩
          case measure => simp [intOf]; omega
    · have hk3 : k = 3 := by omega
      subst hk3
      have hdk : decide (((3 : Nat) : Int) < 3) = false := rfl
      have c0 := hA.rc.cell 0
      have c1 := hA.rc.cell 1
      have c2 := hA.rc.cell 2
      have c3 := hA.rc.cell 3
      have c4 := hA.rc.cell 4
      rw [u64s_at _ _ (by rw [HCL.out]; decide)] at c0 c1 c2 c3 c4
      obtain ⟨v0, h0⟩ : ∃ v, nthN c 0 = v := ⟨_, rfl⟩
      obtain ⟨v1, h1⟩ : ∃ v, nthN c 1 = v := ⟨_, rfl⟩
      obtain ⟨v2, h2⟩ : ∃ v, nthN c 2 = v := ⟨_, rfl⟩
      obtain ⟨v3, h3⟩ : ∃ v, nthN c 3 = v := ⟨_, rfl⟩
      obtain ⟨v4, h4⟩ : ∃ v, nthN c 4 = v := ⟨_, rfl⟩
      have HO : RowKit.Hid (aboveP x n = (decide (0 < v4) || (decide (n < v3) || ((v3 == n) && (decide (0 < v2) || decide (0 < v1) || decide (0 < v0)))))) := Lib.hid (by
        unfold aboveP cmpP
        rw [Hc.out, h0, h1, h2, h3, h4])
      rw [h0] at c0
      rw [h1] at c1
      rw [h2] at c2
      rw [h3] at c3
      rw [h4] at c4
      have HA := Lib.hid hA
      clear hA h0 h1 h2 h3 h4 hlt hk
      by_cases p4 : 0 < v4
      · go_wp2_with fail
        go_ret
        exact ⟨by rw [HO.out, decide_eq_true p4]; rfl, HA.out.below⟩
      · obtain rfl : v4 = 0 := by omega
        clear p4
        by_cases p3 : n < v3
        · go_wp2_with fail
          go_ret
          exact ⟨by rw [HO.out, decide_eq_true p3]; rfl, HA.out.below⟩
        · by_cases pe : v3 = n
          · subst pe
            clear p3
            have hb0 : (v3 == v3) = true := beq_self_eq_true v3
            have hd0 : decide (v3 < v3) = false := decide_eq_false (by omega)
            have HO2 := HO.out
            rw [hb0, hd0] at HO2
            have HO := Lib.hid HO2
            clear HO2 hb0 hd0
            by_cases p2 : 0 < v2
            · go_wp2_with fail
              go_ret
              exact ⟨by rw [HO.out, decide_eq_true p2]; rfl, HA.out.below⟩
            · obtain rfl : v2 = 0 := by omega
              clear p2
              by_cases p1 : 0 < v1
              · go_wp2_with fail
                go_ret
                exact ⟨by rw [HO.out, decide_eq_true p1]; rfl, HA.out.below⟩
              · obtain rfl : v1 = 0 := by omega
                clear p1
                by_cases p0 : 0 < v0
                · go_wp2_with fail
                  go_ret
                  exact ⟨by rw [HO.out, decide_eq_true p0]; rfl, HA.out.below⟩
                · obtain rfl : v0 = 0 := by omega
                  go_wp2_with fail
                  go_ret
                  exact ⟨by rw [HO.out]; rfl, HA.out.below⟩
          · have hb0 : (v3 == n) = false := beq_eq_false_iff_ne.2 pe
            have hi0 : ((v3 : Int) == (n : Int)) = false := by rw [beq_eq_false_iff_ne]; omega
            go_wp2_with fail
            go_ret
            exact ⟨by rw [HO.out, decide_eq_false p3, hb0]; rfl, HA.out.below⟩
end Go.Proofs.YtbklcelnnmhgkaaDoor
