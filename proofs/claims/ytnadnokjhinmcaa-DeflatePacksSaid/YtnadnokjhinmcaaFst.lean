
/- Contracts of firstsOf, isFull, isLone and of slices.Clone of numbers. -/
import Derived.Test.YtnadnokjhinmcaaCnt
namespace Go.Proofs.Ytnadnokjhinmcaa
open Go.RowKit

def fE (c : Nat → Nat) : Nat := if okF c then 0 else 14
def fF (c : Nat → Nat) : Nat → Nat := if okF c then fst c else fun _ => 0
/-- The first codes up to a length. -/
def fstTo (c : Nat → Nat) (k : Nat) : Nat → Nat := fun j => if j ≤ k then fst c j else 0
theorem fstTo_at (c : Nat → Nat) (k : Nat) : fstTo c k k = fst c k := by simp [fstTo]
theorem fstTo_more (c : Nat → Nat) {k : Nat} (h : 1 ≤ k) : fstTo c (k + 1) = upd (fstTo c k) (k + 1) (2 * (fst c k + c k)) := by
  funext j
  unfold fstTo upd
  by_cases h1 : j = k + 1
  · subst h1; simp [fst_succ c h]
  · rw [if_neg h1]
    show _ = if j ≤ k then fst c j else 0
    by_cases h2 : j ≤ k
    · rw [if_pos h2, if_pos (by omega)]
    · rw [if_neg h2, if_neg (by omega)]
theorem fst_low {c : Nat → Nat} {k : Nat} (h : okTo c k) (hk : k ≤ 15) : fst c k ≤ 65536 := by
  rcases k with _ | _ | k
  · simp [fst]
  · simp [fst]
  · rw [fst_succ c (by omega)]
    have hp : 2 ^ (k + 1) ≤ 2 ^ 15 := Nat.pow_le_pow_right (by decide) (by omega)
    rcases h (k + 1) (by omega) with h0 | h0
    · omega
    · omega
/-- Within the first codes. -/
structure FstI (w wr : World) (G : Nat) (c : Nat → Nat) (k : Nat) : Prop where
  ok : okTo c k
  cnt : Row wr G (ia c 16) 102
  row : Row wr (G + 2) (ia (fstTo c k) 17) 106
  res : Row wr (G + 1) (ia (fun _ => 0) 17) 106
  below : Below G w wr
theorem below_drew {B : Nat} {w w' : World} (h : Below B w w') : Below B w w'.drew := ⟨h.os, h.tape, h.output, h.size, h.block⟩
theorem FstI.drew {w wr : World} {G : Nat} {c : Nat → Nat} {k : Nat} (h : FstI w wr G c k) : FstI w wr.drew G c k := ⟨h.ok, h.cnt, h.row, h.res, below_drew h.below⟩

set_option maxHeartbeats 1000000 in
set_option maxRecDepth 10000 in
theorem firsts_any (c : Nat → Nat) (w : World) (hc : ∀ k, c k ≤ 1000) :
    Calls Try.prog 63 #[.agg (ia c 16)] w fun e w' => e = .returned (.tuple #[.agg (ia (fF c) 17), errV (fE c)]) ∧ Below w.heap.size w w' := by
  have HC := Lib.hid hc
  clear hc
  go_enter Try.func63, Try.ntmps63
  go_upto_region 0 with fail
  go_step
  refine box_row rfl 102 _ rfl (ia c 16) rfl ?_
  intro w0 r0 g0 s0
  refine alloc_row rfl 106 rfl _ 17 info116 ?_
  intro w1 r1 g1 s1
  go_wp2_with (with_reducible refine halt_alloc 106 ?_)
  refine Lib.hid ?_
  refine alloc_row rfl 106 rfl _ 17 info116 ?_
  intro w2 r2 g2 s2
  have e1 : w1.heap.size = w.heap.size + 2 := by omega
  have hb : Below w.heap.size w w2 := (((below_make g0).grown g1 (by omega) (fun _ h => by cases h)).grown g2 (by omega) (fun _ h => by cases h))
  have HI : RowKit.Hid (FstI w w2 w.heap.size c 1) := Lib.hid ⟨fun k hk => by left; omega, (r0.grown g1 (by simp)).grown g2 (by simp), by
      rw [← e1]
      have : ia (fstTo c 1) 17 = ia (fun _ => 0) 17 := ia_congr fun i _ => by
        unfold fstTo
        rcases i with _ | _ | i
        · rfl
        · rfl
        · rw [if_neg (by omega)]
      rw [this]; exact r2, by
      rw [← s0]; exact r1.grown g2 (by simp), hb⟩
  rw [e1]
  clear r0 g0 s0 r1 g1 s1 r2 g2 s2 hb e1
  generalize hG : w.heap.size = G at HI ⊢
  have HG := Lib.hid hG
  clear hG
  go_wp2_with fail
  go_loopw [5] (fun i wr => ∃ k : Nat, 1 ≤ k ∧ k ≤ 16 ∧ i = .int .i64 k ∧ FstI w wr G c k) (fun i _ => 16 - (intOf i).toNat)
  case atStart => exact ⟨1, by omega, by omega, rfl, HI.out⟩
  case round =>
    obtain ⟨k, hk1, hk, rfl, hI⟩ := hrel
    have HI := Lib.hid hI
    clear hI
    by_cases hkn : k ≤ 15
    · have hd : decide ((k : Int) ≤ 15) = true := decide_eq_true (by omega)
      have h1 := HI.out.row.ia (show k < 17 by omega)
      rw [fstTo_at] at h1
      have h2 := HI.out.cnt.ia (show k < 16 by omega)
      have hf := fst_low HI.out.ok hkn
      have hcb := HC.out k
      have HM := Lib.hid (fstTo_more c hk1)
      have hP : 2 ^ k ≤ 32768 := by have := Nat.pow_le_pow_right (show 0 < 2 by decide) hkn; simpa using this
      have HOK : RowKit.Hid (fst c k + c k ≤ 2 ^ k → okTo c (k + 1)) := Lib.hid (okTo_succ HI.out.ok)
      have HNO : RowKit.Hid (¬ fst c k + c k ≤ 2 ^ k → ¬ okF c) := Lib.hid (fun h h' => by rcases h' k (by omega) with h3 | h3 <;> omega)
      have hft := HI.out.row.thawed (k + 1)
      have hct := HI.out.row.ia (show k + 1 < 17 by omega)
      obtain ⟨F, HF⟩ : ∃ F, RowKit.Hid (fst c k = F) := ⟨_, Lib.hid rfl⟩
      obtain ⟨C, HCk⟩ : ∃ C, RowKit.Hid (c k = C) := ⟨_, Lib.hid rfl⟩
      rw [HF.out] at h1 hf HM HOK HNO
      rw [HCk.out] at h2 hcb HM HOK HNO
      obtain ⟨p, hp⟩ : ∃ p : Nat, 2 ^ k = p := ⟨_, rfl⟩
      have hpi : (2 : Int) ^ k = (p : Int) := by rw [← hp]; simp
      rw [hp] at hP HOK HNO
      clear hp
      by_cases hle : F + C ≤ p
      · have d2 : decide ((p : Int) < (F : Int) + (C : Int)) = false := decide_eq_false (by omega)
        go_wp2_with fail
        go_region
        have HI2 := Lib.hid HI.out.drew
        have h1 : wr.drew.cell? ⟨G + 2, k + 1, none⟩ = _ := hct
        have h2 : wr.drew.frozen? ⟨G + 2, k + 1, none⟩ = _ := hft
        generalize wr.drew = w3 at HI2 h1 h2 ⊢
        clear HI
        go_wp2_with fail
        go_roundw
        case rel =>
          refine ⟨k + 1, by omega, by omega, by simp, HOK.out hle, HI2.out.cnt.other (by omega) _ _, ?_, HI2.out.res.other (by omega) _ _, HI2.out.below.grown (grown_setCell _ _ _ _) (by have := HI2.out.below.size; have := HG.out; omega) (fun j h => by injection h with h; omega)⟩
          rw [HM.out]
          exact HI2.out.row.iaSet _ _ _ (by omega)
        case measure => simp [intOf]; omega
      · have d2 : decide ((p : Int) < (F : Int) + (C : Int)) = true := decide_eq_true (by omega)
        have HZ : RowKit.Hid (fF c = (fun _ => 0) ∧ fE c = 14) := Lib.hid (by unfold fF fE; rw [if_neg (HNO.out hle), if_neg (HNO.out hle)]; exact ⟨rfl, rfl⟩)
        go_wp2_with fail
        go_region
        have HI2 := Lib.hid HI.out.drew
        generalize wr.drew = w3 at HI2 ⊢
        clear HI
        go_wp2_with (with_reducible refine halt_build 106 ?_)
        refine Lib.hid ?_
        refine build_row rfl 106 #[] rfl (ia (fun _ => 0) 17) (by simpa using built116) ?_
        intro _
        go_wp2_with (with_reducible refine halt_store 106 ?_)
        refine Lib.hid ?_
        refine store_row rfl 106 _ _ rfl (G + 1) (ia (fun _ => 0) 17) rfl rfl 106 _ HI2.out.res 17 size116 (ia_size _ _) (ia_size _ _) (ia_one _ _) ?_
        intro w9 r9 g9 s9
        have HB9 := Lib.hid (HI2.out.below.grown g9 (by have := HI2.out.below.size; have := HG.out; omega) (fun k h => by injection h with h; omega))
        have R9 := Lib.hid r9
        clear r9 g9 s9
        go_wp2_with fail
        refine bodyPost_ret (v := .tuple #[.agg (ia (fun _ => 0) 17), .iface 51 (.int .i64 14)]) ?_ rfl ⟨by rw [HZ.out.1, HZ.out.2]; rfl, by rw [HG.out]; exact HB9.out⟩
        exact results_two rfl _ _ (G + 1) 106 _ _ _ rfl rfl R9.out Try.underlying106 rfl (by rw [size116, ia_size])
    · have hkn : k = 16 := by omega
      subst hkn
      have hd : decide (((16 : Nat) : Int) ≤ 15) = false := rfl
      have hall : ia (fstTo c 16) 17 = ia (fst c) 17 := ia_congr fun i hi => by unfold fstTo; rw [if_pos (by omega)]
      have HZ : RowKit.Hid (fF c = fst c ∧ fE c = 0) := Lib.hid (by
        have : okF c := HI.out.ok
        unfold fF fE
        rw [if_pos this, if_pos this]
        exact ⟨rfl, rfl⟩)
      have hrow := HI.out.row
      rw [hall] at hrow
      have HRow := Lib.hid hrow
      clear hrow hall
      go_wp2_with (with_reducible refine halt_load 106 ?_)
      refine Lib.hid ?_
      refine load_row rfl 106 _ rfl (G + 2) rfl 106 _ _ HRow.out Try.underlying106 rfl 17 size116 (ia_size _ _) ?_
      intro _
      refine store_row rfl 106 _ _ rfl (G + 1) (ia (fst c) 17) rfl rfl 106 _ HI.out.res 17 size116 (ia_size _ _) (ia_size _ _) (ia_one _ _) ?_
      intro w9 r9 g9 s9
      have HB9 := Lib.hid (HI.out.below.grown g9 (by have := HI.out.below.size; have := HG.out; omega) (fun k h => by injection h with h; omega))
      have R9 := Lib.hid r9
      clear r9 g9 s9
      go_wp2_with fail
      refine bodyPost_ret (v := .tuple #[.agg (ia (fst c) 17), .nilIface]) ?_ rfl ⟨by rw [HZ.out.1, HZ.out.2]; rfl, by rw [HG.out]; exact HB9.out⟩
      exact results_two rfl _ _ (G + 1) 106 _ _ _ rfl rfl R9.out Try.underlying106 rfl (by rw [size116, ia_size])

set_option maxHeartbeats 400000 in
set_option maxRecDepth 10000 in
theorem full_any (f : Nat → Nat) (w : World) : Calls Try.prog 64 #[.agg (ia f 17)] w fun e w' => e = .returned (.bool (decide (f 16 = 65536))) ∧ Below w.heap.size w w' := by
  go_enter Try.func64, Try.ntmps64
  go_upto_region 0 with fail
  go_step
  refine box_row rfl 106 _ rfl (ia f 17) rfl ?_
  intro w1 r1 g1 s1
  have hc := r1.ia (show 16 < 17 by decide)
  have HB := Lib.hid (below_make g1)
  clear r1 g1 s1
  have he : (((f 16 : Nat) : Int) == 65536) = decide (f 16 = 65536) := by
    by_cases h : f 16 = 65536
    · rw [decide_eq_true h, beq_iff_eq]; omega
    · rw [decide_eq_false h, beq_eq_false_iff_ne]; omega
  have HE := Lib.hid he
  clear he
  generalize hG : w.heap.size = G at hc HB ⊢
  have HG := Lib.hid hG
  clear hG
  go_wp2_with fail
  go_ret
  exact ⟨congrArg (fun b => Ending.returned (Value.bool b)) HE.out, by rw [HG.out]; exact HB.out⟩

theorem st_bound {c : Nat → Nat} (hc : ∀ k, c k ≤ 1000) (k : Nat) : st c k ≤ 1000 * k := by
  induction k with
  | zero => simp [st]
  | succ k ih =>
    rcases Nat.eq_zero_or_pos k with h | h
    · subst h; simp [st]
    · rw [st_succ c h]; have := hc k; omega

set_option maxHeartbeats 400000 in
set_option maxRecDepth 10000 in
theorem lone_any (c : Nat → Nat) (w : World) (hc : ∀ k, c k ≤ 1000) : Calls Try.prog 65 #[.agg (ia c 16)] w fun e w' => e = .returned (.bool (decide (loneF c))) ∧ Below w.heap.size w w' := by
  have HC := Lib.hid hc
  clear hc
  go_enter Try.func65, Try.ntmps65
  go_upto_region 0 with fail
  go_step
  refine box_row rfl 102 _ rfl (ia c 16) rfl ?_
  intro w1 r1 g1 s1
  have HB := Lib.hid (below_make g1)
  have HR := Lib.hid r1
  clear r1 g1 s1
  generalize hG : w.heap.size = G at HB HR ⊢
  have HG := Lib.hid hG
  clear hG
  go_wp2_with fail
  go_loopw [3, 8] (fun s i wr => ∃ k : Nat, k ≤ 15 ∧ s = .int .i64 (st c (k + 1) : Int) ∧ i = .int .i64 k ∧ wr = w1) (fun _ i _ => 15 - (intOf i).toNat)
  case atStart => exact ⟨0, by omega, rfl, rfl, rfl⟩
  case round =>
    obtain ⟨k, hk, rfl, rfl, rfl⟩ := hrel
    by_cases hk15 : k < 15
    · have hd : decide ((k : Int) < 15) = true := decide_eq_true (by omega)
      have h1 := HR.out.ia (show 1 + k < 16 by omega)
      have HS : RowKit.Hid (st c (k + 1 + 1) = st c (k + 1) + c (1 + k)) := Lib.hid (by rw [st_succ c (by omega), Nat.add_comm 1 k])
      have hb1 := st_bound HC.out (k + 1)
      have hb2 := HC.out (1 + k)
      generalize st c (k + 1) = S at HS hb1 ⊢
      generalize c (1 + k) = C at HS hb2 h1
      have hS : S ≤ 16000 := by omega
      go_wp2_with fail
      go_roundw
      case rel => exact ⟨k + 1, by omega, by rw [HS.out]; simp, by simp, trivial⟩
      case measure => simp [intOf]; omega
    · have hk15 : k = 15 := by omega
      subst hk15
      have hd : decide (((15 : Nat) : Int) < 15) = false := rfl
      have h1 := HR.out.ia (show 1 < 16 by omega)
      have HZ : RowKit.Hid (loneF c ↔ (st c (15 + 1) = 0 ∨ (st c (15 + 1) = 1 ∧ c 1 = 1))) := Lib.hid Iff.rfl
      generalize st c (15 + 1) = S at HZ ⊢
      generalize c 1 = C at HZ h1
      by_cases h0 : S = 0
      · subst h0
        have HT : RowKit.Hid (decide (loneF c) = true) := Lib.hid (decide_eq_true (HZ.out.2 (.inl rfl)))
        go_wp2_with fail
        go_ret
        exact ⟨by rw [HT.out]; rfl, by rw [HG.out]; exact HB.out⟩
      · have d0 : ((S : Int) == 0) = false := by rw [beq_eq_false_iff_ne]; omega
        by_cases h2 : S = 1
        · subst h2
          by_cases h3 : C = 1
          · subst h3
            have HT : RowKit.Hid (decide (loneF c) = true) := Lib.hid (decide_eq_true (HZ.out.2 (.inr ⟨rfl, rfl⟩)))
            go_wp2_with fail
            go_ret
            exact ⟨by rw [HT.out]; rfl, by rw [HG.out]; exact HB.out⟩
          · have d1 : ((C : Int) == 1) = false := by rw [beq_eq_false_iff_ne]; omega
            have HT : RowKit.Hid (decide (loneF c) = false) := Lib.hid (decide_eq_false (fun h => by have := HZ.out.1 h; omega))
            clear h3
            go_wp2_with fail
            go_ret
            exact ⟨by rw [HT.out]; rfl, by rw [HG.out]; exact HB.out⟩
        · have d1 : ((S : Int) == 1) = false := by rw [beq_eq_false_iff_ne]; omega
          have HT : RowKit.Hid (decide (loneF c) = false) := Lib.hid (decide_eq_false (fun h => by have := HZ.out.1 h; omega))
          clear h0 h2
          go_wp2_with fail
          go_ret
          exact ⟨by rw [HT.out]; rfl, by rw [HG.out]; exact HB.out⟩

theorem someI (a : Addr) (n c : Nat) (w : World) : (binOp .eql 46 (.slice (some a) n c) (.slice none 0 0)).run Try.prog w = .ok (.bool false) w := by kernel_rfl
theorem noneI (w : World) : (binOp .eql 46 (.slice none 0 0) (.slice none 0 0)).run Try.prog w = .ok (.bool true) w := by kernel_rfl

set_option maxHeartbeats 400000 in
set_option maxRecDepth 10000 in
/-- slices.Clone of numbers -/
theorem cloneI_any (A : Option Addr) (n c : Nat) (l : List Int) (w : World) (hr : Rd w w.heap.size A n (is l)) (hA : A = none → c = 0) (hn : n ≤ 1000000) :
    Calls Try.prog 66 #[.slice A n c] w fun e w' => ∃ v, e = .returned v ∧ OwnI w' w.heap.size v l ∧ w.grownBy w' none := by
  have hl : l.length = n := by have := hr.1; rwa [is_length] at this
  rcases A with _ | a
  · have h0 : n = 0 := by
      rcases Nat.eq_zero_or_pos n with h0 | h0
      · exact h0
      · obtain ⟨g, o, he, _⟩ := hr.2 h0; cases he
    subst h0
    have : l = [] := List.eq_nil_of_length_eq_zero hl
    subst this
    have hc := hA rfl
    subst hc
    have hn := noneI w
    go_enter Try.func66, Try.ntmps66
    go_wp2_with fail
    go_ret
    exact ⟨_, rfl, OwnI.nil _ _, World.grownBy.refl _ _⟩
  · obtain ⟨b, off, sp⟩ := a
    have HR := Lib.hid hr
    have HA := Lib.hid hA
    have HO := Lib.hid (OwnI.lit w #[] [] 0 rfl rfl (by decide))
    have HG := Lib.hid (World.grownBy_alloc w (.cells #[] 3) none)
    clear hr hA
    have hn := someI ⟨b, off, sp⟩ n c w
    go_enter Try.func66, Try.ntmps66
    go_wp2_with (at_builtin; refine catI (w.alloc (.cells #[] 3)) rfl (.tmp 5) (.tmp 6) rfl w.heap.size w.heap.size _ [] l _ n c rfl rfl HO.out (HR.out.below (below_make HG.out)) HA.out (by simp) (by simp; omega) ?_)
    intro v' w' ho hg _
    have hgw : w.grownBy w' none := ⟨hg.os.trans HG.out.os, hg.tape.trans HG.out.tape, hg.output.trans HG.out.output, Nat.le_trans HG.out.size hg.size, fun k hk _ => (hg.block k (by simp; omega) (by simp [Value.ownBlock]; omega)).trans (HG.out.block k hk (by simp))⟩
    have HO2 := Lib.hid ho
    have HG2 := Lib.hid hgw
    clear ho hg hgw
    go_wp2_with fail
    go_ret
    exact ⟨_, rfl, HO2.out, HG2.out⟩
end Go.Proofs.Ytnadnokjhinmcaa
