/- The law InflateStored. -/
import Derived.Test.YtjipjclbhdgkoaaDoorMor
namespace Go.Proofs.YtjipjclbhdgkoaaDoor
open Go.RowKit

theorem cut_is (a : Int) (n : Nat) : ∃ k : Nat, (IntKind.u64.wrap a).tmod ((n : Int) + 1) = (k : Int) ∧ k ≤ n := by
  have h0 : 0 ≤ IntKind.u64.wrap a := by rw [IntKind.wrap_u64]; omega
  refine ⟨((IntKind.u64.wrap a).tmod ((n : Int) + 1)).toNat, ?_, ?_⟩
  · have := Int.tmod_nonneg ((n : Int) + 1) h0
    omega
  · have := Int.tmod_lt_of_pos (IntKind.u64.wrap a) (show 0 < (n : Int) + 1 by omega)
    omega
/-- What was laid behind i parts. -/
def laidB (x y : List UInt8) (i : Nat) : List UInt8 := if i = 0 then [] else if i = 1 then blk 0 x else blk 0 x ++ blk 1 y
theorem laidB_le {l : List UInt8} {k : Nat} (h : l.length ≤ 500) (j : Nat) : (laidB (l.take k) (l.drop k) j).length ≤ 2000 := by
  unfold laidB
  split
  · simp
  · split
    · rw [blk_length, List.length_take]; omega
    · rw [List.length_append, blk_length, blk_length, List.length_take, List.length_drop]; omega
theorem head5 (i m0 m1 d0 d1 : Nat) (hi : i < 256) (h0 : m0 < 256) (h1 : m1 < 256) (h2 : d0 < 256) (h3 : d1 < 256) :
    (#[Value.int .u8 (i : Int), Value.int .u8 (m0 : Int), Value.int .u8 (m1 : Int), Value.int .u8 (d0 : Int), Value.int .u8 (d1 : Int)] : Array Value).toList = us [UInt8.ofNat i, UInt8.ofNat m0, UInt8.ofNat m1, UInt8.ofNat d0, UInt8.ofNat d1] := by
  simp [us, of_lt hi, of_lt h0, of_lt h1, of_lt h2, of_lt h3]
/-- Two parts, as they lie. -/
structure Parts (w : World) (w1 : World) (pb : Nat) (A1 : Option Addr) (n1 c1 : Nat) (A2 : Option Addr) (n2 c2 : Nat) (x y : List UInt8) : Prop where
  row : Row w1 pb #[.slice A1 n1 c1, .slice A2 n2 c2] 22
  r1 : Rd w w.heap.size A1 n1 (us x)
  r2 : Rd w w.heap.size A2 n2 (us y)
  z1 : A1 = none → c1 = 0
  z2 : A2 = none → c2 = 0

theorem rd_part1 {w : World} {B : Nat} {A : Option Addr} {n k : Nat} {l : List UInt8} (h : Rd w B A n (us l)) (hk : k ≤ n) : Rd w B A k (us (l.take k)) := by
  have hl : l.length = n := by have := h.1; rwa [us_length] at this
  refine ⟨by rw [us_length, List.length_take]; omega, fun h0 => ?_⟩
  obtain ⟨g, o, rfl, hg, hc⟩ := h.2 (by omega)
  have h1 := h.part 0 k (by omega)
  rw [List.drop_zero, show (us l).take k = us (l.take k) by simp [us, List.map_take]] at h1
  exact h1.2 h0
theorem rd_part2 {w : World} {B b o n k : Nat} {sp : Option Nat} {l : List UInt8} (h : Rd w B (some ⟨b, o, sp⟩) n (us l)) (hk : k ≤ n) : Rd w B (some ((⟨b, o, sp⟩ : Addr).add k)) (n - k) (us (l.drop k)) := by
  have hl : l.length = n := by have := h.1; rwa [us_length] at this
  refine ⟨by rw [us_length, List.length_drop]; omega, fun h0 => ?_⟩
  obtain ⟨g, o', e, hg, hc⟩ := h.2 (by omega)
  injection e with e
  injection e with e1 e2 e3
  subst e1 e2 e3
  have h1 := h.part k (n - k) (by omega)
  rw [show ((us l).drop k).take (n - k) = us (l.drop k) by rw [List.take_of_length_le (by rw [List.length_drop, us_length]; omega)]; simp [us, List.map_drop]] at h1
  rw [Go.WideShapes.add_plain]
  exact h1.2 h0
theorem rd_none {w : World} {B : Nat} {A : Option Addr} {n k : Nat} {l : List UInt8} (h : Rd w B A n (us l)) (hk : n ≤ k) : Rd w B A (n - k) (us (l.drop k)) := by
  have hl : l.length = n := by have := h.1; rwa [us_length] at this
  exact ⟨by rw [us_length, List.length_drop]; omega, fun h0 => by omega⟩

set_option maxHeartbeats 4000000 in
set_option maxRecDepth 20000 in
theorem stored_any (A : Option Addr) (n c : Nat) (l : List UInt8) (x1 x2 : Int) (w : World) (hr : Rd w w.heap.size A n (us l)) (hA : A = none → c = 0) (hnc : n ≤ c) (ht : Tab w) (h0 : 0 < w.heap.size) :
    Calls Tryd.prog 6 #[.slice A n c, .int .i64 x1, .int .i64 x2] w fun e w' => e = .returned (.bool true) ∧ Below w.heap.size w w' := by
  have HL : RowKit.Hid (l.length = n) := Lib.hid (by have := hr.1; rwa [us_length] at this)
  have HR := Lib.hid hr
  have HA := Lib.hid hA
  have HT := Lib.hid (And.intro ht h0)
  clear ht h0
  by_cases hbig : 500 < n
  · have hd : decide (500 < (n : Int)) = true := decide_eq_true (by omega)
    clear hr hA
    go_enter Tryd.func6, Tryd.ntmps6
    go_wp2_with fail
    refine (alive_true w HT.out.1 HT.out.2).mono ?_
    rintro e w1 ⟨rfl, hb1⟩
    have HB1 := Lib.hid hb1
    clear hb1
    go_wp2_with fail
    go_ret
    exact ⟨rfl, HB1.out⟩
  have hd : decide (500 < (n : Int)) = false := decide_eq_false (by omega)
  obtain ⟨k, hk, hkn⟩ := cut_is x1 n
  have hkc : k ≤ c := by omega
  have hkw : IntKind.i64.wrap (k : Int) = (k : Int) := wrap64_in _ (by omega) (by omega)
  have hnw : IntKind.u64.wrap ((n : Int) + 1) = (n : Int) + 1 := by rw [IntKind.wrap_u64]; omega
  have hne1 : ¬ (n : Int) + 1 = 0 := by omega
  go_enter Tryd.func6, Tryd.ntmps6
  go_wp2_with fail
  refine (alive_true w HT.out.1 HT.out.2).mono ?_
  rintro e w1 ⟨rfl, hb1⟩
  have HB1 := Lib.hid hb1
  clear hb1
  go_wp2_with fail
  by_cases hck : c = k
  · subst hck
    clear hA hr
    have HPA : RowKit.Hid (∀ (B : Nat) (wr : World), Row wr (B + 1) #[.slice A c c, .slice A (0) (0)] 22 → ∀ j, j < 2 → ∃ Aj m cj z, wr.cell? ⟨B + 1, j, none⟩ = some (.slice Aj m cj) ∧ Rd w w.heap.size Aj m (us z) ∧ (Aj = none → cj = 0) ∧ m ≤ 500 ∧ laidB (l.take c) (l.drop c) (j + 1) = laidB (l.take c) (l.drop c) j ++ blk j z ∧ m = z.length) := Lib.hid (fun B wr hrow j hj => by
      rcases (show j = 0 ∨ j = 1 by omega) with rfl | rfl
      · exact ⟨_, _, _, l.take c, hrow.cell 0, (rd_part1 HR.out hkn), HA.out, by omega, rfl, by have := HL.out; simp only [List.length_take]; omega⟩
      · exact ⟨_, _, _, l.drop c, hrow.cell 1, (by have h := rd_none HR.out (show n ≤ c by omega); rwa [show n - c = 0 by omega] at h), (fun _ => rfl), by omega, rfl, by have := HL.out; simp only [List.length_drop]; omega⟩)
    go_region
    change Exit.then _ _ _ _ ((w1.alloc (.cells #[] 5)).alloc (.cells #[.slice A c c, .slice A 0 0] 22)).drew
    have HB3 : RowKit.Hid (Below w.heap.size w ((w1.alloc (.cells #[] 5)).alloc (.cells #[.slice A c c, .slice A 0 0] 22)).drew) := Lib.hid (by
      have h2 := HB1.out.grown (World.grownBy_alloc w1 (.cells #[] 5) none) HB1.out.size (fun _ h => by cases h)
      have h3 := h2.grown (World.grownBy_alloc _ (.cells #[.slice A c c, .slice A 0 0] 22) none) h2.size (fun _ h => by cases h)
      exact h3.grown (drew_grown _) h3.size (fun _ h => by cases h))
    have HO3 : RowKit.Hid (Own ((w1.alloc (.cells #[] 5)).alloc (.cells #[.slice A c c, .slice A 0 0] 22)).drew w1.heap.size (.slice (some ⟨w1.heap.size, 0, none⟩) 0 0) []) := Lib.hid (by
      have h1 := Own.lit w1 #[] [] 0 rfl rfl (by decide)
      have h2 : Own _ _ _ _ := World.ownsRow.kept h1 (World.grownBy_alloc _ (.cells #[.slice A c c, .slice A 0 0] 22) none) (own_none _)
      exact World.ownsRow.kept h2 (drew_grown _) (own_none _))
    have HR3 : RowKit.Hid (Row ((w1.alloc (.cells #[] 5)).alloc (.cells #[.slice A c c, .slice A 0 0] 22)).drew (w1.heap.size + 1) #[.slice A c c, .slice A 0 0] 22) := Lib.hid (by
      have h1 := Row.new (w1.alloc (.cells #[] 5)) #[.slice A c c, .slice A 0 0] 22
      rw [show (w1.alloc (.cells #[] 5)).heap.size = w1.heap.size + 1 by simp] at h1
      exact h1)
    have HZ3 : RowKit.Hid (w1.heap.size + 2 ≤ ((w1.alloc (.cells #[] 5)).alloc (.cells #[.slice A c c, .slice A 0 0] 22)).drew.heap.size) := Lib.hid (by show _ ≤ ((w1.alloc (.cells #[] 5)).alloc (.cells #[.slice A c c, .slice A 0 0] 22)).heap.size; simp)
    generalize ((w1.alloc (.cells #[] 5)).alloc (.cells #[.slice A c c, .slice A 0 0] 22)).drew = w3 at HB3 HO3 HR3 HZ3 ⊢
    have HWB : RowKit.Hid (w.heap.size ≤ w1.heap.size) := Lib.hid HB1.out.size
    generalize w1.heap.size = B at HO3 HR3 HZ3 HWB ⊢
    clear HB1
    go_wp2_with fail
    go_loopw [8, 36] (fun v i wr => ∃ j : Nat, j ≤ 2 ∧ i = .int .i64 (j : Int) ∧ Own wr B v (laidB (l.take c) (l.drop c) j) ∧ Below w.heap.size w wr ∧ Row wr (B + 1) #[.slice A c c, .slice A 0 0] 22 ∧ B + 2 ≤ wr.heap.size ∧ some (B + 1) ≠ v.ownBlock) (fun _ i _ => 2 - (intOf i).toNat)
    case atStart => exact ⟨0, by omega, rfl, HO3.out, HB3.out, HR3.out, HZ3.out, fun e => by have e : B + 1 = B := Option.some.inj e; omega⟩
    case round =>
      clear HB3 HO3 HR3 HZ3
      obtain ⟨j, hj, rfl, hown, hbel, hrow, hsz, hap⟩ := hrel
      by_cases hj2 : j < 2
      · obtain ⟨Aj, m, cj, z, hcell, hrd, hcz, hm5, hlb, hzl⟩ := HPA.out B wr hrow j hj2
        have hdj : decide ((j : Int) < 2) = true := decide_eq_true (by omega)
        have hj8 : (j : Int) % 256 = (j : Int) := by omega
        obtain ⟨m0, hm0⟩ : ∃ m0, m % 256 = m0 := ⟨_, rfl⟩
        obtain ⟨m1, hm1⟩ : ∃ m1, m / 256 = m1 := ⟨_, rfl⟩
        obtain ⟨d0, hd0⟩ : ∃ d0, 255 - m0 = d0 := ⟨_, rfl⟩
        obtain ⟨d1, hd1⟩ : ∃ d1, 255 - m1 = d1 := ⟨_, rfl⟩
        have e1 : (m : Int).tmod 256 = (m0 : Int) := by rw [Int.tmod_eq_emod_of_nonneg (by omega)]; omega
        have e1' : (m : Int) % 256 = (m0 : Int) := by omega
        have e2 : (m : Int).tdiv 256 = (m1 : Int) := by rw [Int.tdiv_eq_ediv_of_nonneg (by omega)]; omega
        have e2' : (m : Int) / 256 = (m1 : Int) := by omega
        have e3 : (255 : Int) - (m0 : Int) = (d0 : Int) := by omega
        have e4 : (255 : Int) - (m1 : Int) = (d1 : Int) := by omega
        have e5 : (m0 : Int) % 256 = (m0 : Int) := by omega
        have e6 : (m1 : Int) % 256 = (m1 : Int) := by omega
        have e7 : (d0 : Int) % 256 = (d0 : Int) := by omega
        have e8 : (d1 : Int) % 256 = (d1 : Int) := by omega
        have HU := Lib.hid (head5 j m0 m1 d0 d1 (by omega) (by omega) (by omega) (by omega) (by omega))
        have HLB0 : RowKit.Hid (laidB (l.take c) (l.drop c) j ++ [UInt8.ofNat j, UInt8.ofNat m0, UInt8.ofNat m1, UInt8.ofNat d0, UInt8.ofNat d1] ++ z = laidB (l.take c) (l.drop c) (j + 1)) := Lib.hid (by
          rw [hlb, List.append_assoc]
          unfold blk
          rw [← hzl, hm0, hm1, hd0, hd1])
        obtain ⟨hd5, hh5⟩ : ∃ hd5 : List UInt8, [UInt8.ofNat j, UInt8.ofNat m0, UInt8.ofNat m1, UInt8.ofNat d0, UInt8.ofNat d1] = hd5 := ⟨_, rfl⟩
        have HL5 : RowKit.Hid (hd5.length = 5) := Lib.hid (by rw [← hh5]; rfl)
        rw [hh5] at HU HLB0
        have HLB := HLB0
        have HS : RowKit.Hid ((laidB (l.take c) (l.drop c) j).length + 5 + m ≤ 3000) := Lib.hid (by
          have : (laidB (l.take c) (l.drop c) j).length ≤ 2000 := laidB_le (by rw [HL.out]; omega) j
          omega)
        have HO := Lib.hid hown
        have HBL := Lib.hid hbel
        have HRW := Lib.hid hrow
        have HSZ := Lib.hid hsz
        have HAP := Lib.hid hap
        have HRD := Lib.hid hrd
        have HCZ := Lib.hid hcz
        have HBB : RowKit.Hid (B ≤ wr.heap.size) := Lib.hid (by omega)
        have HS1 : RowKit.Hid ((laidB (l.take c) (l.drop c) j).length + 5 ≤ 4000000) := Lib.hid (by have := HS.out; omega)
        clear hown hbel hrow hsz hap hrd hcz hlb hzl hm0 hm1 hd0 hd1 hh5 HLB0
        go_wp2_with (at_builtin; refine push8b wr rfl (.tmp 43) (.tmp 60) rfl B _ (laidB (l.take c) (l.drop c) j) hd5 _ 5 rfl rfl HO.out HU.out HL5.out HBB.out HS1.out ?_)
        intro v6 w6 ho6 hg6 hf6
        have hb6 := HBL.out.grown hg6 HBL.out.size (fun q hq => by have := (World.ownsRow.lt HO.out q hq).1; have := HWB.out; omega)
        have hr6 := HRW.out.grown hg6 HAP.out
        have hz6 : B + 2 ≤ w6.heap.size := Nat.le_trans HSZ.out hg6.size
        have hap6 : some (B + 1) ≠ v6.ownBlock := by
          rcases hf6 with e | ⟨q, e, hq⟩
          · rw [e]; exact HAP.out
          · rw [e]; intro e; injection e with e; have := HSZ.out; omega
        have HO6 := Lib.hid ho6
        have HB6 := Lib.hid hb6
        have HR6 := Lib.hid hr6
        have HZ6 := Lib.hid hz6
        have HA6 := Lib.hid hap6
        have HBB6 : RowKit.Hid (B ≤ w6.heap.size) := Lib.hid (by omega)
        have HS2 : RowKit.Hid ((laidB (l.take c) (l.drop c) j ++ hd5).length + m ≤ 4000000) := Lib.hid (by rw [List.length_append, HL5.out]; have := HS.out; omega)
        clear ho6 hg6 hf6 hb6 hr6 hz6 hap6 HO HBL HRW HSZ HAP HBB HS1 HU
        go_wp2_with (at_builtin; refine cat8b w6 rfl (.tmp 62) (.tmp 63) rfl B w.heap.size v6 (laidB (l.take c) (l.drop c) j ++ hd5) z Aj m cj rfl rfl HO6.out (HRD.out.below HB6.out) HCZ.out HBB6.out HS2.out ?_)
        intro v7 w7 ho7 hg7 hf7
        rw [← List.append_assoc, HLB.out] at ho7
        have hb7 := HB6.out.grown hg7 HB6.out.size (fun q hq => by have := (World.ownsRow.lt HO6.out q hq).1; have := HWB.out; omega)
        have hr7 := HR6.out.grown hg7 HA6.out
        have hz7 : B + 2 ≤ w7.heap.size := Nat.le_trans HZ6.out hg7.size
        have hap7 : some (B + 1) ≠ v7.ownBlock := by
          rcases hf7 with e | ⟨q, e, hq⟩
          · rw [e]; exact HA6.out
          · rw [e]; intro e; injection e with e; have := HZ6.out; omega
        have HF7 := Lib.hid (And.intro ho7 (And.intro hb7 (And.intro hr7 (And.intro hz7 hap7))))
        clear ho7 hg7 hf7 hb7 hr7 hz7 hap7
        go_wp2_with fail
        go_roundw
        case rel => exact ⟨j + 1, by omega, by simp, HF7.out⟩
        case measure => simp [intOf]; omega
      · obtain rfl : j = 2 := by omega
        have hown2 : Own wr B _ (blk 0 (l.take c) ++ blk 1 (l.drop c)) := hown
        have hq : (blk 0 (l.take c) ++ blk 1 (l.drop c)).length = n + 10 := by
          rw [List.length_append, blk_length, blk_length, List.length_take, List.length_drop, HL.out]; omega
        obtain ⟨A8, c8, hv8⟩ := hown2.slice
        rw [hq] at hv8
        subst hv8
        have HO := Lib.hid hown2
        have HBL := Lib.hid hbel
        have HTW := Lib.hid (infl_two (l.take c) (l.drop c) (by rw [List.length_take, HL.out]; omega) (by rw [List.length_drop, HL.out]; omega) (8 * (blk 0 (l.take c) ++ blk 1 (l.drop c)).length + 1) x2.toNat (by rw [hq]; omega))
        have HLL : RowKit.Hid ((l.take c).length + (l.drop c).length = n ∧ l.take c ++ l.drop c = l) := Lib.hid ⟨by rw [List.length_take, List.length_drop, HL.out]; omega, List.take_append_drop c l⟩
        have hd2 : decide (((2 : Nat) : Int) < 2) = false := rfl
        clear hown hown2 hbel hrow hsz hap hq hj hj2
        go_wp2_with fail
        refine (inflate_all A8 (n + 10) c8 (blk 0 (l.take c) ++ blk 1 (l.drop c)) x2 wr HO.out.rd.2 HO.out.capz (by omega) (HT.out.1.below HT.out.2 HBL.out) (Nat.lt_of_lt_of_le HT.out.2 HBL.out.size)).mono ?_
        rintro e w5 ⟨hb5, ⟨kk, hk5, rfl⟩ | ⟨s5, u5, hx5, hs5, rfl, hu5⟩⟩
        · have HB5 : ∀ cs, RowKit.Hid (Below w.heap.size w (w5.alloc (.cells cs 25))) := fun cs => Lib.hid (by
            have h2 := HBL.out.trans (hb5.mono HBL.out.size)
            exact h2.grown (World.grownBy_alloc w5 _ none) h2.size (fun _ h => by cases h))
          have hcond : x2 < (n : Int) ∨ 1048576 < x2 := by
            rcases hk5 with ⟨h1, _⟩ | ⟨h1, jj, _, h2⟩
            · omega
            · rw [HTW.out] at h2
              by_cases hc : x2.toNat < (l.take c).length + (l.drop c).length
              · have := HLL.out.1; omega
              · rw [if_neg hc] at h2; cases h2
          clear hb5 hk5
          unfold zeroR
          by_cases hc1 : x2 < (n : Int)
          · have f1 : decide (x2 < (n : Int)) = true := decide_eq_true hc1
            go_wp2_with fail
            go_ret
            exact ⟨rfl, (HB5 _).out⟩
          · have f1 : decide (x2 < (n : Int)) = false := decide_eq_false hc1
            have f2 : decide (1048576 < x2) = true := decide_eq_true (by omega)
            go_wp2_with fail
            go_ret
            exact ⟨rfl, (HB5 _).out⟩
        · rw [HTW.out] at hs5
          have hc : ¬ x2.toNat < (l.take c).length + (l.drop c).length := fun hc => by rw [if_pos hc] at hs5; cases hs5
          rw [if_neg hc] at hs5
          injection hs5 with hs5
          injection hs5 with _ hs5
          subst hs5
          have f1 : decide (x2 < (n : Int)) = false := decide_eq_false (by have := HLL.out.1; omega)
          have f2 : decide (1048576 < x2) = false := decide_eq_false (by omega)
          have f3 : ¬ x2 < (n : Int) := by have := HLL.out.1; omega
          have f4 : ¬ 1048576 < x2 := by omega
          have hu6 : Own w5 wr.heap.size u5 l := by have h := hu5; rw [HLL.out.2] at h; exact h
          obtain ⟨A9, c9, rfl⟩ := hu6.slice
          rw [HL.out] at hu6 ⊢
          have hB5 := HBL.out.trans (hb5.mono HBL.out.size)
          have HB5 : RowKit.Hid (Below w.heap.size w (w5.alloc (.cells #[.slice A9 n c9, .int .i64 ((n + 10 : Nat) : Int), .int .i64 ((n + 2 : Nat) : Int)] 25))) := Lib.hid (hB5.grown (World.grownBy_alloc w5 _ none) hB5.size (fun _ h => by cases h))
          have HC1 := Lib.hid (hu6.rd.2.next (below_make (World.grownBy_alloc w5 (.cells #[.slice A9 n c9, .int .i64 ((n + 10 : Nat) : Int), .int .i64 ((n + 2 : Nat) : Int)] 25) none)))
          have HC2 := Lib.hid (HR.out.next HB5.out)
          have g1 : (8 * (10 + (l.take c).length + (l.drop c).length) + 7) / 8 = n + 10 := by have := HLL.out.1; omega
          have g2 : (l.take c).length + (l.drop c).length + 2 = n + 2 := by have := HLL.out.1; omega
          dsimp only
          rw [g1, g2]
          clear hb5 hx5 hu5 hu6 hB5 hc g1 g2
          go_wp2_with fail
          refine (bytes_same A9 _ n c9 c l _ HC1.out HC2.out).mono ?_
          rintro e wA ⟨rfl, rfl⟩
          go_wp2_with fail
          go_ret
          exact ⟨by simp, HB5.out⟩
  rcases A with _ | ⟨b, o, sp⟩
  · exact absurd (hA rfl) (by omega)
  clear hA hr
  have HPA : RowKit.Hid (∀ (B : Nat) (wr : World), Row wr (B + 1) #[.slice (some ⟨b, o, sp⟩) k c, .slice (some ((⟨b, o, sp⟩ : Addr).add k)) (n - k) (c - k)] 22 → ∀ j, j < 2 → ∃ Aj m cj z, wr.cell? ⟨B + 1, j, none⟩ = some (.slice Aj m cj) ∧ Rd w w.heap.size Aj m (us z) ∧ (Aj = none → cj = 0) ∧ m ≤ 500 ∧ laidB (l.take k) (l.drop k) (j + 1) = laidB (l.take k) (l.drop k) j ++ blk j z ∧ m = z.length) := Lib.hid (fun B wr hrow j hj => by
    rcases (show j = 0 ∨ j = 1 by omega) with rfl | rfl
    · exact ⟨_, _, _, l.take k, hrow.cell 0, (rd_part1 HR.out hkn), (fun h => by cases h), by omega, rfl, by have := HL.out; simp only [List.length_take]; omega⟩
    · exact ⟨_, _, _, l.drop k, hrow.cell 1, (rd_part2 HR.out hkn), (fun h => by cases h), by omega, rfl, by have := HL.out; simp only [List.length_drop]; omega⟩)
  go_region
  change Exit.then _ _ _ _ ((w1.alloc (.cells #[] 5)).alloc (.cells #[.slice (some ⟨b, o, sp⟩) k c, .slice (some ((⟨b, o, sp⟩ : Addr).add k)) (n - k) (c - k)] 22)).drew
  have HB3 : RowKit.Hid (Below w.heap.size w ((w1.alloc (.cells #[] 5)).alloc (.cells #[.slice (some ⟨b, o, sp⟩) k c, .slice (some ((⟨b, o, sp⟩ : Addr).add k)) (n - k) (c - k)] 22)).drew) := Lib.hid (by
    have h2 := HB1.out.grown (World.grownBy_alloc w1 (.cells #[] 5) none) HB1.out.size (fun _ h => by cases h)
    have h3 := h2.grown (World.grownBy_alloc _ (.cells #[.slice (some ⟨b, o, sp⟩) k c, .slice (some ((⟨b, o, sp⟩ : Addr).add k)) (n - k) (c - k)] 22) none) h2.size (fun _ h => by cases h)
    exact h3.grown (drew_grown _) h3.size (fun _ h => by cases h))
  have HO3 : RowKit.Hid (Own ((w1.alloc (.cells #[] 5)).alloc (.cells #[.slice (some ⟨b, o, sp⟩) k c, .slice (some ((⟨b, o, sp⟩ : Addr).add k)) (n - k) (c - k)] 22)).drew w1.heap.size (.slice (some ⟨w1.heap.size, 0, none⟩) 0 0) []) := Lib.hid (by
    have h1 := Own.lit w1 #[] [] 0 rfl rfl (by decide)
    have h2 : Own _ _ _ _ := World.ownsRow.kept h1 (World.grownBy_alloc _ (.cells #[.slice (some ⟨b, o, sp⟩) k c, .slice (some ((⟨b, o, sp⟩ : Addr).add k)) (n - k) (c - k)] 22) none) (own_none _)
    exact World.ownsRow.kept h2 (drew_grown _) (own_none _))
  have HR3 : RowKit.Hid (Row ((w1.alloc (.cells #[] 5)).alloc (.cells #[.slice (some ⟨b, o, sp⟩) k c, .slice (some ((⟨b, o, sp⟩ : Addr).add k)) (n - k) (c - k)] 22)).drew (w1.heap.size + 1) #[.slice (some ⟨b, o, sp⟩) k c, .slice (some ((⟨b, o, sp⟩ : Addr).add k)) (n - k) (c - k)] 22) := Lib.hid (by
    have h1 := Row.new (w1.alloc (.cells #[] 5)) #[.slice (some ⟨b, o, sp⟩) k c, .slice (some ((⟨b, o, sp⟩ : Addr).add k)) (n - k) (c - k)] 22
    rw [show (w1.alloc (.cells #[] 5)).heap.size = w1.heap.size + 1 by simp] at h1
    exact h1)
  have HZ3 : RowKit.Hid (w1.heap.size + 2 ≤ ((w1.alloc (.cells #[] 5)).alloc (.cells #[.slice (some ⟨b, o, sp⟩) k c, .slice (some ((⟨b, o, sp⟩ : Addr).add k)) (n - k) (c - k)] 22)).drew.heap.size) := Lib.hid (by show _ ≤ ((w1.alloc (.cells #[] 5)).alloc (.cells #[.slice (some ⟨b, o, sp⟩) k c, .slice (some ((⟨b, o, sp⟩ : Addr).add k)) (n - k) (c - k)] 22)).heap.size; simp)
  generalize ((w1.alloc (.cells #[] 5)).alloc (.cells #[.slice (some ⟨b, o, sp⟩) k c, .slice (some ((⟨b, o, sp⟩ : Addr).add k)) (n - k) (c - k)] 22)).drew = w3 at HB3 HO3 HR3 HZ3 ⊢
  have HWB : RowKit.Hid (w.heap.size ≤ w1.heap.size) := Lib.hid HB1.out.size
  generalize w1.heap.size = B at HO3 HR3 HZ3 HWB ⊢
  clear HB1
  go_wp2_with fail
  go_loopw [8, 36] (fun v i wr => ∃ j : Nat, j ≤ 2 ∧ i = .int .i64 (j : Int) ∧ Own wr B v (laidB (l.take k) (l.drop k) j) ∧ Below w.heap.size w wr ∧ Row wr (B + 1) #[.slice (some ⟨b, o, sp⟩) k c, .slice (some ((⟨b, o, sp⟩ : Addr).add k)) (n - k) (c - k)] 22 ∧ B + 2 ≤ wr.heap.size ∧ some (B + 1) ≠ v.ownBlock) (fun _ i _ => 2 - (intOf i).toNat)
  case atStart => exact ⟨0, by omega, rfl, HO3.out, HB3.out, HR3.out, HZ3.out, fun e => by have e : B + 1 = B := Option.some.inj e; omega⟩
  case round =>
    clear HB3 HO3 HR3 HZ3
    obtain ⟨j, hj, rfl, hown, hbel, hrow, hsz, hap⟩ := hrel
    by_cases hj2 : j < 2
    · obtain ⟨Aj, m, cj, z, hcell, hrd, hcz, hm5, hlb, hzl⟩ := HPA.out B wr hrow j hj2
      have hdj : decide ((j : Int) < 2) = true := decide_eq_true (by omega)
      have hj8 : (j : Int) % 256 = (j : Int) := by omega
      obtain ⟨m0, hm0⟩ : ∃ m0, m % 256 = m0 := ⟨_, rfl⟩
      obtain ⟨m1, hm1⟩ : ∃ m1, m / 256 = m1 := ⟨_, rfl⟩
      obtain ⟨d0, hd0⟩ : ∃ d0, 255 - m0 = d0 := ⟨_, rfl⟩
      obtain ⟨d1, hd1⟩ : ∃ d1, 255 - m1 = d1 := ⟨_, rfl⟩
      have e1 : (m : Int).tmod 256 = (m0 : Int) := by rw [Int.tmod_eq_emod_of_nonneg (by omega)]; omega
      have e1' : (m : Int) % 256 = (m0 : Int) := by omega
      have e2 : (m : Int).tdiv 256 = (m1 : Int) := by rw [Int.tdiv_eq_ediv_of_nonneg (by omega)]; omega
      have e2' : (m : Int) / 256 = (m1 : Int) := by omega
      have e3 : (255 : Int) - (m0 : Int) = (d0 : Int) := by omega
      have e4 : (255 : Int) - (m1 : Int) = (d1 : Int) := by omega
      have e5 : (m0 : Int) % 256 = (m0 : Int) := by omega
      have e6 : (m1 : Int) % 256 = (m1 : Int) := by omega
      have e7 : (d0 : Int) % 256 = (d0 : Int) := by omega
      have e8 : (d1 : Int) % 256 = (d1 : Int) := by omega
      have HU := Lib.hid (head5 j m0 m1 d0 d1 (by omega) (by omega) (by omega) (by omega) (by omega))
      have HLB0 : RowKit.Hid (laidB (l.take k) (l.drop k) j ++ [UInt8.ofNat j, UInt8.ofNat m0, UInt8.ofNat m1, UInt8.ofNat d0, UInt8.ofNat d1] ++ z = laidB (l.take k) (l.drop k) (j + 1)) := Lib.hid (by
        rw [hlb, List.append_assoc]
        unfold blk
        rw [← hzl, hm0, hm1, hd0, hd1])
      obtain ⟨hd5, hh5⟩ : ∃ hd5 : List UInt8, [UInt8.ofNat j, UInt8.ofNat m0, UInt8.ofNat m1, UInt8.ofNat d0, UInt8.ofNat d1] = hd5 := ⟨_, rfl⟩
      have HL5 : RowKit.Hid (hd5.length = 5) := Lib.hid (by rw [← hh5]; rfl)
      rw [hh5] at HU HLB0
      have HLB := HLB0
      have HS : RowKit.Hid ((laidB (l.take k) (l.drop k) j).length + 5 + m ≤ 3000) := Lib.hid (by
        have : (laidB (l.take k) (l.drop k) j).length ≤ 2000 := laidB_le (by rw [HL.out]; omega) j
        omega)
      have HO := Lib.hid hown
      have HBL := Lib.hid hbel
      have HRW := Lib.hid hrow
      have HSZ := Lib.hid hsz
      have HAP := Lib.hid hap
      have HRD := Lib.hid hrd
      have HCZ := Lib.hid hcz
      have HBB : RowKit.Hid (B ≤ wr.heap.size) := Lib.hid (by omega)
      have HS1 : RowKit.Hid ((laidB (l.take k) (l.drop k) j).length + 5 ≤ 4000000) := Lib.hid (by have := HS.out; omega)
      clear hown hbel hrow hsz hap hrd hcz hlb hzl hm0 hm1 hd0 hd1 hh5 HLB0
      go_wp2_with (at_builtin; refine push8b wr rfl (.tmp 43) (.tmp 60) rfl B _ (laidB (l.take k) (l.drop k) j) hd5 _ 5 rfl rfl HO.out HU.out HL5.out HBB.out HS1.out ?_)
      intro v6 w6 ho6 hg6 hf6
      have hb6 := HBL.out.grown hg6 HBL.out.size (fun q hq => by have := (World.ownsRow.lt HO.out q hq).1; have := HWB.out; omega)
      have hr6 := HRW.out.grown hg6 HAP.out
      have hz6 : B + 2 ≤ w6.heap.size := Nat.le_trans HSZ.out hg6.size
      have hap6 : some (B + 1) ≠ v6.ownBlock := by
        rcases hf6 with e | ⟨q, e, hq⟩
        · rw [e]; exact HAP.out
        · rw [e]; intro e; injection e with e; have := HSZ.out; omega
      have HO6 := Lib.hid ho6
      have HB6 := Lib.hid hb6
      have HR6 := Lib.hid hr6
      have HZ6 := Lib.hid hz6
      have HA6 := Lib.hid hap6
      have HBB6 : RowKit.Hid (B ≤ w6.heap.size) := Lib.hid (by omega)
      have HS2 : RowKit.Hid ((laidB (l.take k) (l.drop k) j ++ hd5).length + m ≤ 4000000) := Lib.hid (by rw [List.length_append, HL5.out]; have := HS.out; omega)
      clear ho6 hg6 hf6 hb6 hr6 hz6 hap6 HO HBL HRW HSZ HAP HBB HS1 HU
      go_wp2_with (at_builtin; refine cat8b w6 rfl (.tmp 62) (.tmp 63) rfl B w.heap.size v6 (laidB (l.take k) (l.drop k) j ++ hd5) z Aj m cj rfl rfl HO6.out (HRD.out.below HB6.out) HCZ.out HBB6.out HS2.out ?_)
      intro v7 w7 ho7 hg7 hf7
      rw [← List.append_assoc, HLB.out] at ho7
      have hb7 := HB6.out.grown hg7 HB6.out.size (fun q hq => by have := (World.ownsRow.lt HO6.out q hq).1; have := HWB.out; omega)
      have hr7 := HR6.out.grown hg7 HA6.out
      have hz7 : B + 2 ≤ w7.heap.size := Nat.le_trans HZ6.out hg7.size
      have hap7 : some (B + 1) ≠ v7.ownBlock := by
        rcases hf7 with e | ⟨q, e, hq⟩
        · rw [e]; exact HA6.out
        · rw [e]; intro e; injection e with e; have := HZ6.out; omega
      have HF7 := Lib.hid (And.intro ho7 (And.intro hb7 (And.intro hr7 (And.intro hz7 hap7))))
      clear ho7 hg7 hf7 hb7 hr7 hz7 hap7
      go_wp2_with fail
      go_roundw
      case rel => exact ⟨j + 1, by omega, by simp, HF7.out⟩
      case measure => simp [intOf]; omega
    · obtain rfl : j = 2 := by omega
      have hown2 : Own wr B _ (blk 0 (l.take k) ++ blk 1 (l.drop k)) := hown
      have hq : (blk 0 (l.take k) ++ blk 1 (l.drop k)).length = n + 10 := by
        rw [List.length_append, blk_length, blk_length, List.length_take, List.length_drop, HL.out]; omega
      obtain ⟨A8, c8, hv8⟩ := hown2.slice
      rw [hq] at hv8
      subst hv8
      have HO := Lib.hid hown2
      have HBL := Lib.hid hbel
      have HTW := Lib.hid (infl_two (l.take k) (l.drop k) (by rw [List.length_take, HL.out]; omega) (by rw [List.length_drop, HL.out]; omega) (8 * (blk 0 (l.take k) ++ blk 1 (l.drop k)).length + 1) x2.toNat (by rw [hq]; omega))
      have HLL : RowKit.Hid ((l.take k).length + (l.drop k).length = n ∧ l.take k ++ l.drop k = l) := Lib.hid ⟨by rw [List.length_take, List.length_drop, HL.out]; omega, List.take_append_drop k l⟩
      have hd2 : decide (((2 : Nat) : Int) < 2) = false := rfl
      clear hown hown2 hbel hrow hsz hap hq hj hj2
      go_wp2_with fail
      refine (inflate_all A8 (n + 10) c8 (blk 0 (l.take k) ++ blk 1 (l.drop k)) x2 wr HO.out.rd.2 HO.out.capz (by omega) (HT.out.1.below HT.out.2 HBL.out) (Nat.lt_of_lt_of_le HT.out.2 HBL.out.size)).mono ?_
      rintro e w5 ⟨hb5, ⟨kk, hk5, rfl⟩ | ⟨s5, u5, hx5, hs5, rfl, hu5⟩⟩
      · have HB5 : ∀ cs, RowKit.Hid (Below w.heap.size w (w5.alloc (.cells cs 25))) := fun cs => Lib.hid (by
          have h2 := HBL.out.trans (hb5.mono HBL.out.size)
          exact h2.grown (World.grownBy_alloc w5 _ none) h2.size (fun _ h => by cases h))
        have hcond : x2 < (n : Int) ∨ 1048576 < x2 := by
          rcases hk5 with ⟨h1, _⟩ | ⟨h1, jj, _, h2⟩
          · omega
          · rw [HTW.out] at h2
            by_cases hc : x2.toNat < (l.take k).length + (l.drop k).length
            · have := HLL.out.1; omega
            · rw [if_neg hc] at h2; cases h2
        clear hb5 hk5
        unfold zeroR
        by_cases hc1 : x2 < (n : Int)
        · have f1 : decide (x2 < (n : Int)) = true := decide_eq_true hc1
          go_wp2_with fail
          go_ret
          exact ⟨rfl, (HB5 _).out⟩
        · have f1 : decide (x2 < (n : Int)) = false := decide_eq_false hc1
          have f2 : decide (1048576 < x2) = true := decide_eq_true (by omega)
          go_wp2_with fail
          go_ret
          exact ⟨rfl, (HB5 _).out⟩
      · rw [HTW.out] at hs5
        have hc : ¬ x2.toNat < (l.take k).length + (l.drop k).length := fun hc => by rw [if_pos hc] at hs5; cases hs5
        rw [if_neg hc] at hs5
        injection hs5 with hs5
        injection hs5 with _ hs5
        subst hs5
        have f1 : decide (x2 < (n : Int)) = false := decide_eq_false (by have := HLL.out.1; omega)
        have f2 : decide (1048576 < x2) = false := decide_eq_false (by omega)
        have f3 : ¬ x2 < (n : Int) := by have := HLL.out.1; omega
        have f4 : ¬ 1048576 < x2 := by omega
        have hu6 : Own w5 wr.heap.size u5 l := by have h := hu5; rw [HLL.out.2] at h; exact h
        obtain ⟨A9, c9, rfl⟩ := hu6.slice
        rw [HL.out] at hu6 ⊢
        have hB5 := HBL.out.trans (hb5.mono HBL.out.size)
        have HB5 : RowKit.Hid (Below w.heap.size w (w5.alloc (.cells #[.slice A9 n c9, .int .i64 ((n + 10 : Nat) : Int), .int .i64 ((n + 2 : Nat) : Int)] 25))) := Lib.hid (hB5.grown (World.grownBy_alloc w5 _ none) hB5.size (fun _ h => by cases h))
        have HC1 := Lib.hid (hu6.rd.2.next (below_make (World.grownBy_alloc w5 (.cells #[.slice A9 n c9, .int .i64 ((n + 10 : Nat) : Int), .int .i64 ((n + 2 : Nat) : Int)] 25) none)))
        have HC2 := Lib.hid (HR.out.next HB5.out)
        have g1 : (8 * (10 + (l.take k).length + (l.drop k).length) + 7) / 8 = n + 10 := by have := HLL.out.1; omega
        have g2 : (l.take k).length + (l.drop k).length + 2 = n + 2 := by have := HLL.out.1; omega
        dsimp only
        rw [g1, g2]
        clear hb5 hx5 hu5 hu6 hB5 hc g1 g2
        go_wp2_with fail
        refine (bytes_same A9 _ n c9 c l _ HC1.out HC2.out).mono ?_
        rintro e wA ⟨rfl, rfl⟩
        go_wp2_with fail
        go_ret
        exact ⟨by simp, HB5.out⟩
end Go.Proofs.YtjipjclbhdgkoaaDoor
