
/- Contracts of firstsOf, isFull, isLone and of slices.Clone of numbers. -/

/- What a Code is in memory; contract of number. -/

/- The statement of New that makes the Code: a region that draws its order, walked over an act that is a variable. -/
import Derived.Test.YtpnnlhegncbfaaaGreatDoorGroupD
import Derived.BigRegion
import Derived.Deep.OwnRows
namespace Go.Proofs.YtpnnlhegncbfaaaGreatDoor
set_option maxRecDepth 20000
open Go.RowKit

def fE (c : Nat → Nat) : Nat := if okF c then 0 else 14
def fF (c : Nat → Nat) : Nat → Nat := if okF c then fst c else fun _ => 0
/-- The first codes up to a length. -/
def fstTo (c : Nat → Nat) (k : Nat) : Nat → Nat := fun j => if j ≤ k then fst c j else 0
theorem fstTo_at (c : Nat → Nat) (k : Nat) : fstTo c k k = fst c k := by simp [fstTo]
theorem fstTo_more (c : Nat → Nat) {k : Nat} (h : 1 ≤ k) : fstTo c (k + 1) = upd (fstTo c k) (k + 1) (2 * (fst c k + c k)) := by
  funext j
  unfold fstTo upd
  by_cases h1 : j = k + 1
  · subst h1; simp [fst_succ c h]
  · rw [if_neg h1]
    show _ = if j ≤ k then fst c j else 0
    by_cases h2 : j ≤ k
    · rw [if_pos h2, if_pos (by omega)]
    · rw [if_neg h2, if_neg (by omega)]
theorem fst_low {c : Nat → Nat} {k : Nat} (h : okTo c k) (hk : k ≤ 15) : fst c k ≤ 65536 := by
  rcases k with _ | _ | k
  · simp [fst]
  · simp [fst]
  · rw [fst_succ c (by omega)]
    have hp : 2 ^ (k + 1) ≤ 2 ^ 15 := Nat.pow_le_pow_right (by decide) (by omega)
    rcases h (k + 1) (by omega) with h0 | h0
    · omega
    · omega
/-- Within the first codes. -/
structure FstI (w wr : World) (G : Nat) (c : Nat → Nat) (k : Nat) : Prop where
  ok : okTo c k
  cnt : Row wr G (ia c 16) 141
  row : Row wr (G + 2) (ia (fstTo c k) 17) 145
  res : Row wr (G + 1) (ia (fun _ => 0) 17) 145
  below : Below G w wr
theorem below_drew {B : Nat} {w w' : World} (h : Below B w w') : Below B w w'.drew := ⟨h.os, h.tape, h.output, h.size, h.block⟩
theorem FstI.drew {w wr : World} {G : Nat} {c : Nat → Nat} {k : Nat} (h : FstI w wr G c k) : FstI w wr.drew G c k := ⟨h.ok, h.cnt, h.row, h.res, below_drew h.below⟩

set_option maxHeartbeats 1000000 in
set_option maxRecDepth 10000 in
theorem firsts_any (c : Nat → Nat) (w : World) (hc : ∀ k, c k ≤ 1000) :
    Calls Tryz.prog 89 #[.agg (ia c 16)] w fun e w' => e = .returned (.tuple #[.agg (ia (fF c) 17), errV (fE c)]) ∧ Below w.heap.size w w' := by
  have HC := Lib.hid hc
  clear hc
  go_enter Tryz.func89, Tryz.ntmps89
  go_upto_region 0 with fail
  go_step
  refine box_row rfl 141 _ rfl (ia c 16) rfl ?_
  intro w0 r0 g0 s0
  refine alloc_row rfl 145 rfl _ 17 info116 ?_
  intro w1 r1 g1 s1
  go_wp2_with (with_reducible refine halt_alloc 145 ?_)
  refine Lib.hid ?_
  refine alloc_row rfl 145 rfl _ 17 info116 ?_
  intro w2 r2 g2 s2
  have e1 : w1.heap.size = w.heap.size + 2 := by omega
  have hb : Below w.heap.size w w2 := (((below_make g0).grown g1 (by omega) (fun _ h => by cases h)).grown g2 (by omega) (fun _ h => by cases h))
  have HI : RowKit.Hid (FstI w w2 w.heap.size c 1) := Lib.hid ⟨fun k hk => by left; omega, (r0.grown g1 (by simp)).grown g2 (by simp), by
      rw [← e1]
      have : ia (fstTo c 1) 17 = ia (fun _ => 0) 17 := ia_congr fun i _ => by
        unfold fstTo
        rcases i with _ | _ | i
        · rfl
        · rfl
        · rw [if_neg (by omega)]
      rw [this]; exact r2, by
      rw [← s0]; exact r1.grown g2 (by simp), hb⟩
  rw [e1]
  clear r0 g0 s0 r1 g1 s1 r2 g2 s2 hb e1
  generalize hG : w.heap.size = G at HI ⊢
  have HG := Lib.hid hG
  clear hG
  go_wp2_with fail
  go_loopw [5] (fun i wr => ∃ k : Nat, 1 ≤ k ∧ k ≤ 16 ∧ i = .int .i64 k ∧ FstI w wr G c k) (fun i _ => 16 - (intOf i).toNat)
  case atStart => exact ⟨1, by omega, by omega, rfl, HI.out⟩
  case round =>
    obtain ⟨k, hk1, hk, rfl, hI⟩ := hrel
    have HI := Lib.hid hI
    clear hI
    by_cases hkn : k ≤ 15
    · have hd : decide ((k : Int) ≤ 15) = true := decide_eq_true (by omega)
      have h1 := HI.out.row.ia (show k < 17 by omega)
      rw [fstTo_at] at h1
      have h2 := HI.out.cnt.ia (show k < 16 by omega)
      have hf := fst_low HI.out.ok hkn
      have hcb := HC.out k
      have HM := Lib.hid (fstTo_more c hk1)
      have hP : 2 ^ k ≤ 32768 := by have := Nat.pow_le_pow_right (show 0 < 2 by decide) hkn; simpa using this
      have HOK : RowKit.Hid (fst c k + c k ≤ 2 ^ k → okTo c (k + 1)) := Lib.hid (okTo_succ HI.out.ok)
      have HNO : RowKit.Hid (¬ fst c k + c k ≤ 2 ^ k → ¬ okF c) := Lib.hid (fun h h' => by rcases h' k (by omega) with h3 | h3 <;> omega)
      have hft := HI.out.row.thawed (k + 1)
      have hct := HI.out.row.ia (show k + 1 < 17 by omega)
      obtain ⟨F, HF⟩ : ∃ F, RowKit.Hid (fst c k = F) := ⟨_, Lib.hid rfl⟩
      obtain ⟨C, HCk⟩ : ∃ C, RowKit.Hid (c k = C) := ⟨_, Lib.hid rfl⟩
      rw [HF.out] at h1 hf HM HOK HNO
      rw [HCk.out] at h2 hcb HM HOK HNO
      obtain ⟨p, hp⟩ : ∃ p : Nat, 2 ^ k = p := ⟨_, rfl⟩
      have hpi : (2 : Int) ^ k = (p : Int) := by rw [← hp]; simp
      rw [hp] at hP HOK HNO
      clear hp
      by_cases hle : F + C ≤ p
      · have d2 : decide ((p : Int) < (F : Int) + (C : Int)) = false := decide_eq_false (by omega)
        go_wp2_with fail
        go_region
        have HI2 := Lib.hid HI.out.drew
        have h1 : wr.drew.cell? ⟨G + 2, k + 1, none⟩ = _ := hct
        have h2 : wr.drew.frozen? ⟨G + 2, k + 1, none⟩ = _ := hft
        generalize wr.drew = w3 at HI2 h1 h2 ⊢
        clear HI
        go_wp2_with fail
        go_roundw
        case rel =>
          refine ⟨k + 1, by omega, by omega, by simp, HOK.out hle, HI2.out.cnt.other (by omega) _ _, ?_, HI2.out.res.other (by omega) _ _, HI2.out.below.grown (grown_setCell _ _ _ _) (by have := HI2.out.below.size; have := HG.out; omega) (fun j h => by injection h with h; omega)⟩
          rw [HM.out]
          exact HI2.out.row.iaSet _ _ _ (by omega)
        case measure => simp [intOf]; omega
      · have d2 : decide ((p : Int) < (F : Int) + (C : Int)) = true := decide_eq_true (by omega)
        have HZ : RowKit.Hid (fF c = (fun _ => 0) ∧ fE c = 14) := Lib.hid (by unfold fF fE; rw [if_neg (HNO.out hle), if_neg (HNO.out hle)]; exact ⟨rfl, rfl⟩)
        go_wp2_with fail
        go_region
        have HI2 := Lib.hid HI.out.drew
        generalize wr.drew = w3 at HI2 ⊢
        clear HI
        go_wp2_with (with_reducible refine halt_build 145 ?_)
        refine Lib.hid ?_
        refine build_row rfl 145 #[] rfl (ia (fun _ => 0) 17) (by simpa using built116) ?_
        intro _
        go_wp2_with (with_reducible refine halt_store 145 ?_)
        refine Lib.hid ?_
        refine store_row rfl 145 _ _ rfl (G + 1) (ia (fun _ => 0) 17) rfl rfl 145 _ HI2.out.res 17 size116 (ia_size _ _) (ia_size _ _) (ia_one _ _) ?_
        intro w9 r9 g9 s9
        have HB9 := Lib.hid (HI2.out.below.grown g9 (by have := HI2.out.below.size; have := HG.out; omega) (fun k h => by injection h with h; omega))
        have R9 := Lib.hid r9
        clear r9 g9 s9
        go_wp2_with fail
        refine bodyPost_ret (v := .tuple #[.agg (ia (fun _ => 0) 17), .iface 39 (.int .i64 14)]) ?_ rfl ⟨by rw [HZ.out.1, HZ.out.2]; rfl, by rw [HG.out]; exact HB9.out⟩
        exact results_two rfl _ _ (G + 1) 145 _ _ _ rfl rfl R9.out Tryz.underlying145 rfl (by rw [size116, ia_size])
    · have hkn : k = 16 := by omega
      subst hkn
      have hd : decide (((16 : Nat) : Int) ≤ 15) = false := rfl
      have hall : ia (fstTo c 16) 17 = ia (fst c) 17 := ia_congr fun i hi => by unfold fstTo; rw [if_pos (by omega)]
      have HZ : RowKit.Hid (fF c = fst c ∧ fE c = 0) := Lib.hid (by
        have : okF c := HI.out.ok
        unfold fF fE
        rw [if_pos this, if_pos this]
        exact ⟨rfl, rfl⟩)
      have hrow := HI.out.row
      rw [hall] at hrow
      have HRow := Lib.hid hrow
      clear hrow hall
      go_wp2_with (with_reducible refine halt_load 145 ?_)
      refine Lib.hid ?_
      refine load_row rfl 145 _ rfl (G + 2) rfl 145 _ _ HRow.out Tryz.underlying145 rfl 17 size116 (ia_size _ _) ?_
      intro _
      refine store_row rfl 145 _ _ rfl (G + 1) (ia (fst c) 17) rfl rfl 145 _ HI.out.res 17 size116 (ia_size _ _) (ia_size _ _) (ia_one _ _) ?_
      intro w9 r9 g9 s9
      have HB9 := Lib.hid (HI.out.below.grown g9 (by have := HI.out.below.size; have := HG.out; omega) (fun k h => by injection h with h; omega))
      have R9 := Lib.hid r9
      clear r9 g9 s9
      go_wp2_with fail
      refine bodyPost_ret (v := .tuple #[.agg (ia (fst c) 17), .nilIface]) ?_ rfl ⟨by rw [HZ.out.1, HZ.out.2]; rfl, by rw [HG.out]; exact HB9.out⟩
      exact results_two rfl _ _ (G + 1) 145 _ _ _ rfl rfl R9.out Tryz.underlying145 rfl (by rw [size116, ia_size])

set_option maxHeartbeats 400000 in
set_option maxRecDepth 10000 in
theorem full_any (f : Nat → Nat) (w : World) : Calls Tryz.prog 90 #[.agg (ia f 17)] w fun e w' => e = .returned (.bool (decide (f 16 = 65536))) ∧ Below w.heap.size w w' := by
  go_enter Tryz.func90, Tryz.ntmps90
  go_upto_region 0 with fail
  go_step
  refine box_row rfl 145 _ rfl (ia f 17) rfl ?_
  intro w1 r1 g1 s1
  have hc := r1.ia (show 16 < 17 by decide)
  have HB := Lib.hid (below_make g1)
  clear r1 g1 s1
  have he : (((f 16 : Nat) : Int) == 65536) = decide (f 16 = 65536) := by
    by_cases h : f 16 = 65536
    · rw [decide_eq_true h, beq_iff_eq]; omega
    · rw [decide_eq_false h, beq_eq_false_iff_ne]; omega
  have HE := Lib.hid he
  clear he
  generalize hG : w.heap.size = G at hc HB ⊢
  have HG := Lib.hid hG
  clear hG
  go_wp2_with fail
  go_ret
  exact ⟨congrArg (fun b => Ending.returned (Value.bool b)) HE.out, by rw [HG.out]; exact HB.out⟩

theorem st_bound {c : Nat → Nat} (hc : ∀ k, c k ≤ 1000) (k : Nat) : st c k ≤ 1000 * k := by
  induction k with
  | zero => simp [st]
  | succ k ih =>
    rcases Nat.eq_zero_or_pos k with h | h
    · subst h; simp [st]
    · rw [st_succ c h]; have := hc k; omega

set_option maxHeartbeats 400000 in
set_option maxRecDepth 10000 in
theorem lone_any (c : Nat → Nat) (w : World) (hc : ∀ k, c k ≤ 1000) : Calls Tryz.prog 91 #[.agg (ia c 16)] w fun e w' => e = .returned (.bool (decide (loneF c))) ∧ Below w.heap.size w w' := by
  have HC := Lib.hid hc
  clear hc
  go_enter Tryz.func91, Tryz.ntmps91
  go_upto_region 0 with fail
  go_step
  refine box_row rfl 141 _ rfl (ia c 16) rfl ?_
  intro w1 r1 g1 s1
  have HB := Lib.hid (below_make g1)
  have HR := Lib.hid r1
  clear r1 g1 s1
  generalize hG : w.heap.size = G at HB HR ⊢
  have HG := Lib.hid hG
  clear hG
  go_wp2_with fail
  go_loopw [3, 8] (fun s i wr => ∃ k : Nat, k ≤ 15 ∧ s = .int .i64 (st c (k + 1) : Int) ∧ i = .int .i64 k ∧ wr = w1) (fun _ i _ => 15 - (intOf i).toNat)
  case atStart => exact ⟨0, by omega, rfl, rfl, rfl⟩
  case round =>
    obtain ⟨k, hk, rfl, rfl, rfl⟩ := hrel
    by_cases hk15 : k < 15
    · have hd : decide ((k : Int) < 15) = true := decide_eq_true (by omega)
      have h1 := HR.out.ia (show 1 + k < 16 by omega)
      have HS : RowKit.Hid (st c (k + 1 + 1) = st c (k + 1) + c (1 + k)) := Lib.hid (by rw [st_succ c (by omega), Nat.add_comm 1 k])
      have hb1 := st_bound HC.out (k + 1)
      have hb2 := HC.out (1 + k)
      generalize st c (k + 1) = S at HS hb1 ⊢
      generalize c (1 + k) = C at HS hb2 h1
      have hS : S ≤ 16000 := by omega
      go_wp2_with fail
      go_roundw
      case rel => exact ⟨k + 1, by omega, by rw [HS.out]; simp, by simp, trivial⟩
      case measure => simp [intOf]; omega
    · have hk15 : k = 15 := by omega
      subst hk15
      have hd : decide (((15 : Nat) : Int) < 15) = false := rfl
      have h1 := HR.out.ia (show 1 < 16 by omega)
      have HZ : RowKit.Hid (loneF c ↔ (st c (15 + 1) = 0 ∨ (st c (15 + 1) = 1 ∧ c 1 = 1))) := Lib.hid Iff.rfl
      generalize st c (15 + 1) = S at HZ ⊢
      generalize c 1 = C at HZ h1
      by_cases h0 : S = 0
      · subst h0
        have HT : RowKit.Hid (decide (loneF c) = true) := Lib.hid (decide_eq_true (HZ.out.2 (.inl rfl)))
        go_wp2_with fail
        go_ret
        exact ⟨by rw [HT.out]; rfl, by rw [HG.out]; exact HB.out⟩
      · have d0 : ((S : Int) == 0) = false := by rw [beq_eq_false_iff_ne]; omega
        by_cases h2 : S = 1
        · subst h2
          by_cases h3 : C = 1
          · subst h3
            have HT : RowKit.Hid (decide (loneF c) = true) := Lib.hid (decide_eq_true (HZ.out.2 (.inr ⟨rfl, rfl⟩)))
            go_wp2_with fail
            go_ret
            exact ⟨by rw [HT.out]; rfl, by rw [HG.out]; exact HB.out⟩
          · have d1 : ((C : Int) == 1) = false := by rw [beq_eq_false_iff_ne]; omega
            have HT : RowKit.Hid (decide (loneF c) = false) := Lib.hid (decide_eq_false (fun h => by have := HZ.out.1 h; omega))
            clear h3
            go_wp2_with fail
            go_ret
            exact ⟨by rw [HT.out]; rfl, by rw [HG.out]; exact HB.out⟩
        · have d1 : ((S : Int) == 1) = false := by rw [beq_eq_false_iff_ne]; omega
          have HT : RowKit.Hid (decide (loneF c) = false) := Lib.hid (decide_eq_false (fun h => by have := HZ.out.1 h; omega))
          clear h0 h2
          go_wp2_with fail
          go_ret
          exact ⟨by rw [HT.out]; rfl, by rw [HG.out]; exact HB.out⟩

theorem someI (a : Addr) (n c : Nat) (w : World) : (binOp .eql 64 (.slice (some a) n c) (.slice none 0 0)).run Tryz.prog w = .ok (.bool false) w := by kernel_rfl
theorem noneI (w : World) : (binOp .eql 64 (.slice none 0 0) (.slice none 0 0)).run Tryz.prog w = .ok (.bool true) w := by kernel_rfl

set_option maxHeartbeats 400000 in
set_option maxRecDepth 10000 in
/-- slices.Clone of numbers -/
theorem cloneI_any (A : Option Addr) (n c : Nat) (l : List Int) (w : World) (hr : Rd w w.heap.size A n (is l)) (hA : A = none → c = 0) (hn : n ≤ 1000000) :
    Calls Tryz.prog 92 #[.slice A n c] w fun e w' => ∃ v, e = .returned v ∧ OwnI w' w.heap.size v l ∧ w.grownBy w' none := by
  have hl : l.length = n := by have := hr.1; rwa [is_length] at this
  rcases A with _ | a
  · have h0 : n = 0 := by
      rcases Nat.eq_zero_or_pos n with h0 | h0
      · exact h0
      · obtain ⟨g, o, he, _⟩ := hr.2 h0; cases he
    subst h0
    have : l = [] := List.eq_nil_of_length_eq_zero hl
    subst this
    have hc := hA rfl
    subst hc
    have hn := noneI w
    go_enter Tryz.func92, Tryz.ntmps92
    go_wp2_with fail
    go_ret
    exact ⟨_, rfl, OwnI.nil _ _, World.grownBy.refl _ _⟩
  · obtain ⟨b, off, sp⟩ := a
    have HR := Lib.hid hr
    have HA := Lib.hid hA
    have HO := Lib.hid (OwnI.lit w #[] [] 0 rfl rfl (by decide))
    have HG := Lib.hid (World.grownBy_alloc w (.cells #[] 3) none)
    clear hr hA
    have hn := someI ⟨b, off, sp⟩ n c w
    go_enter Tryz.func92, Tryz.ntmps92
    go_wp2_with (at_builtin; refine catI (w.alloc (.cells #[] 3)) rfl (.tmp 5) (.tmp 6) rfl w.heap.size w.heap.size _ [] l _ n c rfl rfl HO.out (HR.out.below (below_make HG.out)) HA.out (by simp) (by simp; omega) ?_)
    intro v' w' ho hg _
    have hgw : w.grownBy w' none := ⟨hg.os.trans HG.out.os, hg.tape.trans HG.out.tape, hg.output.trans HG.out.output, Nat.le_trans HG.out.size hg.size, fun k hk _ => (hg.block k (by simp; omega) (by simp [Value.ownBlock]; omega)).trans (HG.out.block k hk (by simp))⟩
    have HO2 := Lib.hid ho
    have HG2 := Lib.hid hgw
    clear ho hg hgw
    go_wp2_with fail
    go_ret
    exact ⟨_, rfl, HO2.out, HG2.out⟩
end Go.Proofs.YtpnnlhegncbfaaaGreatDoor
namespace Go.Proofs.YtpnnlhegncbfaaaGreatDoor
set_option maxRecDepth 20000
open Go.RowKit

/-- A Code's cells. -/
def hcells (vl vc vs : Value) (c f : Nat → Nat) : Array Value := #[vl, vc, vs] ++ ia c 16 ++ ia f 17
theorem hcells_size (vl vc vs : Value) (c f : Nat → Nat) : (hcells vl vc vs c f).size = 36 := by simp [hcells, ia_size]
theorem hcells_0 (vl vc vs : Value) (c f : Nat → Nat) : (hcells vl vc vs c f)[0]? = some vl := by
  unfold hcells; rw [Array.getElem?_append_left (by simp; omega), Array.getElem?_append_left (by simp)]; rfl
theorem hcells_1 (vl vc vs : Value) (c f : Nat → Nat) : (hcells vl vc vs c f)[1]? = some vc := by
  unfold hcells; rw [Array.getElem?_append_left (by simp; omega), Array.getElem?_append_left (by simp)]; rfl
theorem hcells_2 (vl vc vs : Value) (c f : Nat → Nat) : (hcells vl vc vs c f)[2]? = some vs := by
  unfold hcells; rw [Array.getElem?_append_left (by simp; omega), Array.getElem?_append_left (by simp)]; rfl
theorem hcells_c (vl vc vs : Value) (c f : Nat → Nat) {k : Nat} (h : k < 16) : (hcells vl vc vs c f)[3 + k]? = some (.int .i64 (c k : Int)) := by
  unfold hcells
  rw [Array.getElem?_append_left (by simp [ia_size]; omega), Array.getElem?_append_right (by simp)]
  show (ia c 16)[3 + k - 3]? = _
  rw [Nat.add_sub_cancel_left, ia_at _ h]
theorem hcells_f (vl vc vs : Value) (c f : Nat → Nat) {k : Nat} (h : k < 17) : (hcells vl vc vs c f)[19 + k]? = some (.int .i64 (f k : Int)) := by
  unfold hcells
  rw [Array.getElem?_append_right (by simp [ia_size])]
  have : 19 + k - (#[vl, vc, vs] ++ ia c 16).size = k := by simp [ia_size]
  rw [this, ia_at _ h]
theorem hcells_set1 (vl vc vs : Value) (c f : Nat → Nat) (v : Value) : (hcells vl vc vs c f).setIfInBounds 1 v = hcells vl v vs c f := by
  unfold hcells
  rw [Array.setIfInBounds_append_left (by simp; omega), Array.setIfInBounds_append_left (by simp)]; rfl
theorem hcells_set2 (vl vc vs : Value) (c f : Nat → Nat) (v : Value) : (hcells vl vc vs c f).setIfInBounds 2 v = hcells vl vc v c f := by
  unfold hcells
  rw [Array.setIfInBounds_append_left (by simp; omega), Array.setIfInBounds_append_left (by simp)]; rfl
theorem Rd.ia {w : World} {B : Nat} {A : Option Addr} {n : Nat} {f : Nat → Nat} (h : Rd w B A n (Go.Proofs.YtpnnlhegncbfaaaGreatDoor.ia f n).toList) {k : Nat} (hk : k < n) :
    ∃ b o, A = some ⟨b, o, none⟩ ∧ b < B ∧ w.cell? ⟨b, o + k, none⟩ = some (.int .i64 (f k : Int)) := by
  obtain ⟨b, o, rfl, hb, hc⟩ := h.2 (by omega)
  exact ⟨b, o, rfl, hb, hc k _ (by rw [Array.getElem?_toList, ia_at _ hk])⟩

/-- The starts up to a length. -/
def stTo (c : Nat → Nat) (k : Nat) : Nat → Nat := fun j => if j ≤ k then st c j else 0
theorem stTo_at (c : Nat → Nat) (k : Nat) : stTo c k k = st c k := by simp [stTo]
theorem stTo_more (c : Nat → Nat) {k : Nat} (h : 1 ≤ k) : stTo c (k + 1) = upd (stTo c k) (k + 1) (st c k + c k) := by
  funext j
  unfold stTo upd
  by_cases h1 : j = k + 1
  · subst h1; simp [st_succ c h]
  · rw [if_neg h1]
    show _ = if j ≤ k then st c j else 0
    by_cases h2 : j ≤ k
    · rw [if_pos h2, if_pos (by omega)]
    · rw [if_neg h2, if_neg (by omega)]
/-- A slice that lies below G, and not in block g. -/
def Far (w : World) (g G : Nat) (A : Option Addr) (n : Nat) (xs : List Value) : Prop :=
  xs.length = n ∧ (0 < n → ∃ b o, A = some ⟨b, o, none⟩ ∧ b ≠ g ∧ b < G ∧ ∀ j u, xs[j]? = some u → w.cell? ⟨b, o + j, none⟩ = some u)
theorem Far.at {w : World} {g G : Nat} {A : Option Addr} {n : Nat} {f : Nat → Nat} (h : Far w g G A n (ia f n).toList) {k : Nat} (hk : k < n) :
    ∃ b o, A = some ⟨b, o, none⟩ ∧ w.cell? ⟨b, o + k, none⟩ = some (.int .i64 (f k : Int)) := by
  obtain ⟨b, o, rfl, _, _, hc⟩ := h.2 (by omega)
  exact ⟨b, o, rfl, hc k _ (by rw [Array.getElem?_toList, ia_at _ hk])⟩
theorem Far.grown {w w' : World} {g G : Nat} {A : Option Addr} {n : Nat} {xs : List Value} {r : Option Nat} (h : Far w g G A n xs) (hg : w.grownBy w' r) (hG : G ≤ w.heap.size) (hr : ∀ k, r = some k → k = g ∨ G ≤ k) : Far w' g G A n xs := by
  refine ⟨h.1, fun hn => ?_⟩
  obtain ⟨b, o, rfl, hb, hlt, hc⟩ := h.2 hn
  exact ⟨b, o, rfl, hb, hlt, fun j u hu => (World.cell?_of_block (w := w) (a := ⟨b, o + j, none⟩) (hg.block b (by omega) (fun e => by rcases hr b e.symm with h1 | h1 <;> omega))).trans (hc j u hu)⟩

/-- What number's memory is: the Code in block g, the starts in block G. -/
structure NmbS (w wr : World) (g G : Nat) (vl : Value) (A : Option Addr) (l : List Nat) (st : Nat → Nat) : Prop where
  code : Row wr g (hcells vl (.slice none 0 0) (.slice none 0 0) (cnt l) (fst (cnt l))) 152
  far : Far wr g G A l.length (ia (lenAt l) l.length).toList
  starts : Row wr G (ia st 16) 141
  lt : g < G
  size : wr.heap.size = G + 1
  keep : w.grownBy wr (some g)
theorem NmbS.drew {w wr : World} {g G : Nat} {vl : Value} {A : Option Addr} {l : List Nat} {s : Nat → Nat} (h : NmbS w wr g G vl A l s) : NmbS w wr.drew g G vl A l s :=
  ⟨h.code, h.far, h.starts, h.lt, h.size, grown_drew h.keep⟩
theorem NmbS.set {w wr : World} {g G : Nat} {vl : Value} {A : Option Addr} {l : List Nat} {s : Nat → Nat} (h : NmbS w wr g G vl A l s) (hG : G = w.heap.size) (i v : Nat) (z : Int) (hz : z = (v : Int)) : NmbS w (wr.setCell ⟨G, i, none⟩ (.int .i64 z)) g G vl A l (upd s i v) :=
  ⟨h.code.other (by have := h.lt; omega) _ _, h.far.grown (grown_setCell _ _ _ _) (by have := h.size; omega) (fun k hk => by injection hk with hk; omega), h.starts.iaSet i v z hz, h.lt, by have := h.size; simpa [World.setCell] using this,
    ⟨h.keep.os, h.keep.tape, h.keep.output, by have := h.keep.size; simpa [World.setCell] using this, fun k hk hne => (heap_setCell_other wr ⟨G, i, none⟩ k _ (by show k ≠ G; omega)).trans (h.keep.block k hk hne)⟩⟩

theorem makeI_run (m : Nat) (hm : m ≤ 1000000) (w : World) : (Instr.makeSlice 64 (.int .i64 (m : Int)) (.int .i64 (m : Int))).run Tryz.prog w = .ok (.slice (some ⟨w.heap.size, 0, none⟩) m m) (w.alloc (.cells (ia (fun _ => 0) m) 3)) := by
  rw [← zeros_ia]
  exact run_make_row' 64 3 (.int .i64 0) 8 Tryz.underlying64 info3 rfl .i64 .i64 m (by omega) (by omega) w
/-- make([]int, T) -/
theorem makeI {ops : Array Oper} {rest : List Oper} {o : Oper} {a : Act} {Q : Exit → Act → World → Prop} (w0 : World) (hgd : o.guard = none) (l c : Operand)
    (ho : o.op = Op.makeSlice 64 l c) (T : Nat) (hl : a.eval l = .int .i64 (T : Int)) (hc : a.eval c = .int .i64 (T : Int)) (h1 : T ≤ 1000000)
    (h : ∀ w', Row w' w0.heap.size (ia (fun _ => 0) T) 3 → w0.grownBy w' none → w'.heap.size = w0.heap.size + 1 → wpList Tryz.prog ops Q rest (a.put o.dst (.slice (some ⟨w0.heap.size, 0, none⟩) T T)) w') :
    wpList Tryz.prog ops Q (o :: rest) a w0 := by
  refine wpList_plain hgd fun K hK' => ?_
  unfold Oper.wp
  simp [execOp, ho, hl, hc, makeI_run T h1 w0, Result.andThen]
  exact hK' _ _ (h _ (heap_alloc_new w0 _) (World.grownBy_alloc w0 _ _) (by simp))

/-- The same with the codes' row, and then the signs'. -/
structure NmbA (w wr : World) (g G : Nat) (vl vc vs : Value) (A : Option Addr) (l : List Nat) (cd : Nat → Nat) : Prop where
  code : Row wr g (hcells vl vc vs (cnt l) (fst (cnt l))) 152
  far : Far wr g G A l.length (ia (lenAt l) l.length).toList
  starts : Row wr G (ia (st (cnt l)) 16) 141
  codes : Row wr (G + 1) (ia cd l.length) 3
  lt : g < G
  size : G + 2 ≤ wr.heap.size
  keep : w.grownBy wr (some g)
theorem NmbA.drew {w wr : World} {g G : Nat} {vl vc vs : Value} {A : Option Addr} {l : List Nat} {s : Nat → Nat} (h : NmbA w wr g G vl vc vs A l s) : NmbA w wr.drew g G vl vc vs A l s :=
  ⟨h.code, h.far, h.starts, h.codes, h.lt, h.size, grown_drew h.keep⟩
theorem NmbA.grown {w wr wr' : World} {g G : Nat} {vl vc vs : Value} {A : Option Addr} {l : List Nat} {s : Nat → Nat} {r : Option Nat} (h : NmbA w wr g G vl vc vs A l s) (hG : G = w.heap.size) (hg : wr.grownBy wr' r) (hr : ∀ k, r = some k → G + 2 ≤ k) : NmbA w wr' g G vl vc vs A l s :=
  ⟨h.code.grown hg (fun e => by have := hr g e.symm; have := h.lt; omega), h.far.grown hg (by have := h.size; omega) (fun k hk => by have := hr k hk; omega), h.starts.grown hg (fun e => by have := hr G e.symm; omega),
    h.codes.grown hg (fun e => by have := hr _ e.symm; omega), h.lt, Nat.le_trans h.size hg.size,
    ⟨hg.os.trans h.keep.os, hg.tape.trans h.keep.tape, hg.output.trans h.keep.output, Nat.le_trans h.keep.size hg.size, fun k hk hne => (hg.block k (by have := h.size; omega) (fun e => by have := hr k e.symm; omega)).trans (h.keep.block k hk hne)⟩⟩
theorem NmbA.setV {w wr : World} {g G : Nat} {vl vc vs : Value} {A : Option Addr} {l : List Nat} {s : Nat → Nat} (h : NmbA w wr g G vl vc vs A l s) (v : Value) : NmbA w (wr.setCell ⟨g, 2, none⟩ v) g G vl vc v A l s :=
  ⟨by have := h.code.set 2 v; rwa [hcells_set2] at this, h.far.grown (grown_setCell _ _ _ _) (by have := h.size; omega) (fun k hk => by injection hk with hk; exact .inl hk.symm), h.starts.other (by have := h.lt; omega) _ _,
    h.codes.other (by have := h.lt; omega) _ _, h.lt, by have := h.size; simpa [World.setCell] using this,
    ⟨h.keep.os, h.keep.tape, h.keep.output, by have := h.keep.size; simpa [World.setCell] using this, fun k hk hne => (heap_setCell_other wr ⟨g, 2, none⟩ k _ (fun e => hne (by rw [show k = g from e]))).trans (h.keep.block k hk hne)⟩⟩

theorem NmbA.setCodes {w wr : World} {g G : Nat} {vl vc vs : Value} {A : Option Addr} {l : List Nat} {s : Nat → Nat} (h : NmbA w wr g G vl vc vs A l s) (hG : G = w.heap.size) (i v : Nat) (z : Int) (hz : z = (v : Int)) : NmbA w (wr.setCell ⟨G + 1, i, none⟩ (.int .i64 z)) g G vl vc vs A l (upd s i v) :=
  ⟨h.code.other (by have := h.lt; omega) _ _, h.far.grown (grown_setCell _ _ _ _) (by have := h.size; omega) (fun k hk => by injection hk with hk; omega), h.starts.other (by omega) _ _,
    h.codes.iaSet i v z hz, h.lt, by have := h.size; simpa [World.setCell] using this,
    ⟨h.keep.os, h.keep.tape, h.keep.output, by have := h.keep.size; simpa [World.setCell] using this, fun k hk hne => (heap_setCell_other wr ⟨G + 1, i, none⟩ k _ (by show k ≠ G + 1; omega)).trans (h.keep.block k hk hne)⟩⟩
/-- All of it: the signs' row and how many codes of each length were given. -/
structure NmbM (w wr : World) (g G : Nat) (A : Option Addr) (n cl m : Nat) (l : List Nat) (cd sg gv : Nat → Nat) : Prop where
  base : NmbA w wr g G (.slice A n cl) (.slice (some ⟨G + 1, 0, none⟩) n n) (.slice (some ⟨G + 2, 0, none⟩) m m) A l cd
  signs : Row wr (G + 2) (ia sg m) 3
  given : Row wr (G + 3) (ia gv 16) 141
theorem NmbM.drew {w wr : World} {g G : Nat} {A : Option Addr} {n cl m : Nat} {l : List Nat} {cd sg gv : Nat → Nat} (h : NmbM w wr g G A n cl m l cd sg gv) : NmbM w wr.drew g G A n cl m l cd sg gv := ⟨h.base.drew, h.signs, h.given⟩
theorem NmbM.setCodes {w wr : World} {g G : Nat} {A : Option Addr} {n cl m : Nat} {l : List Nat} {cd sg gv : Nat → Nat} (h : NmbM w wr g G A n cl m l cd sg gv) (hG : G = w.heap.size) (i v : Nat) (z : Int) (hz : z = (v : Int)) :
    NmbM w (wr.setCell ⟨G + 1, i, none⟩ (.int .i64 z)) g G A n cl m l (upd cd i v) sg gv := ⟨h.base.setCodes hG i v z hz, h.signs.other (by omega) _ _, h.given.other (by omega) _ _⟩
theorem NmbM.setSigns {w wr : World} {g G : Nat} {A : Option Addr} {n cl m : Nat} {l : List Nat} {cd sg gv : Nat → Nat} (h : NmbM w wr g G A n cl m l cd sg gv) (hG : G = w.heap.size) (i v : Nat) (z : Int) (hz : z = (v : Int)) :
    NmbM w (wr.setCell ⟨G + 2, i, none⟩ (.int .i64 z)) g G A n cl m l cd (upd sg i v) gv := ⟨h.base.grown hG (grown_setCell _ _ _ _) (fun k hk => by injection hk with hk; omega), h.signs.iaSet i v z hz, h.given.other (by omega) _ _⟩
theorem NmbM.setGiven {w wr : World} {g G : Nat} {A : Option Addr} {n cl m : Nat} {l : List Nat} {cd sg gv : Nat → Nat} (h : NmbM w wr g G A n cl m l cd sg gv) (hG : G = w.heap.size) (i v : Nat) (z : Int) (hz : z = (v : Int)) :
    NmbM w (wr.setCell ⟨G + 3, i, none⟩ (.int .i64 z)) g G A n cl m l cd sg (upd gv i v) := ⟨h.base.grown hG (grown_setCell _ _ _ _) (fun k hk => by injection hk with hk; omega), h.signs.other (by omega) _ _, h.given.iaSet i v z hz⟩

def codeTo (l : List Nat) (k : Nat) : Nat → Nat := fun j => if j < k then codeAt l j else 0
def givTo (l : List Nat) (k : Nat) : Nat → Nat := fun j => if j = 0 then 0 else cnt (l.take k) j
theorem codeTo_more (l : List Nat) (k : Nat) : codeTo l (k + 1) = upd (codeTo l k) k (codeAt l k) := by
  funext j
  unfold codeTo upd
  by_cases h1 : j = k
  · subst h1; simp
  · rw [if_neg h1]
    show _ = if j < k then codeAt l j else 0
    by_cases h2 : j < k
    · rw [if_pos h2, if_pos (by omega)]
    · rw [if_neg h2, if_neg (by omega)]
theorem codeTo_none {l : List Nat} {k : Nat} (h : lenAt l k = 0) : codeTo l (k + 1) = codeTo l k := by
  rw [codeTo_more, code_ne_zero h]
  funext j
  by_cases h1 : j = k
  · subst h1; rw [upd_same]; unfold codeTo; rw [if_neg (by omega)]
  · rw [upd_ne _ _ h1]
theorem givTo_more {l : List Nat} {k : Nat} (hk : k < l.length) (h : lenAt l k ≠ 0) : givTo l (k + 1) = upd (givTo l k) (lenAt l k) (rank l k + 1) := by
  funext j
  unfold givTo upd
  by_cases h1 : j = lenAt l k
  · subst h1; rw [if_neg h, if_pos rfl, cnt_take_succ hk, if_pos rfl]; rfl
  · rw [if_neg h1]
    show _ = if j = 0 then 0 else cnt (l.take k) j
    by_cases h2 : j = 0
    · rw [if_pos h2, if_pos h2]
    · rw [if_neg h2, if_neg h2, cnt_take_succ hk, if_neg (Ne.symm h1), Nat.add_zero]
theorem givTo_none {l : List Nat} {k : Nat} (hk : k < l.length) (h : lenAt l k = 0) : givTo l (k + 1) = givTo l k := by
  funext j
  unfold givTo
  by_cases h2 : j = 0
  · rw [if_pos h2, if_pos h2]
  · rw [if_neg h2, if_neg h2, cnt_take_succ hk, if_neg (by rw [h]; exact Ne.symm h2), Nat.add_zero]
theorem givTo_at {l : List Nat} {k : Nat} (h : lenAt l k ≠ 0) : givTo l k (lenAt l k) = rank l k := by unfold givTo; rw [if_neg h]; rfl
/-- The signs up to k stand where they must. -/
def SgOK (l : List Nat) (k : Nat) (sg : Nat → Nat) : Prop := ∀ s, s < k → lenAt l s ≠ 0 → sg (posAt l s) = s
theorem SgOK.more {l : List Nat} {k : Nat} {sg : Nat → Nat} (h : SgOK l k sg) (hv : lenAt l k ≠ 0) : SgOK l (k + 1) (upd sg (posAt l k) k) := fun s hs h0 => by
  rcases Nat.lt_or_ge s k with h1 | h1
  · rw [upd_ne _ _ (pos_ne (by omega) h0 hv)]; exact h s h1 h0
  · obtain rfl : s = k := by omega
    exact upd_same _ _ _
theorem SgOK.none {l : List Nat} {k : Nat} {sg : Nat → Nat} (h : SgOK l k sg) (hv : lenAt l k = 0) : SgOK l (k + 1) sg := fun s hs h0 => by
  rcases Nat.lt_or_ge s k with h1 | h1
  · exact h s h1 h0
  · obtain rfl : s = k := by omega
    exact absurd hv h0

/-- Block g holds the code of the lengths l; all that belongs to it lies below B. -/
structure HC (w : World) (B g : Nat) (l : List Nat) : Prop where
  lt : g < B
  low : Low l
  ok : okF (cnt l)
  len : l.length ≤ 320
  mem : ∃ Al cl Ac cc As cs sg, Row w g (hcells (.slice Al l.length cl) (.slice Ac l.length cc) (.slice As (st (cnt l) 16) cs) (cnt l) (fst (cnt l))) 152 ∧ Rd w B Al l.length (ia (lenAt l) l.length).toList ∧
    Rd w B Ac l.length (ia (codeAt l) l.length).toList ∧ Rd w B As (st (cnt l) 16) (ia sg (st (cnt l) 16)).toList ∧ SgOK l l.length sg
theorem HC.below {w w' : World} {B g : Nat} {l : List Nat} (h : HC w B g l) (hb : Below B w w') : HC w' B g l := by
  obtain ⟨Al, cl, Ac, cc, As, cs, sg, h1, h2, h3, h4, h5⟩ := h.mem
  exact ⟨h.lt, h.low, h.ok, h.len, Al, cl, Ac, cc, As, cs, sg, h1.below hb h.lt, h2.below hb, h3.below hb, h4.below hb, h5⟩
theorem HC.more {w : World} {B B' g : Nat} {l : List Nat} (h : HC w B g l) (hb : B ≤ B') : HC w B' g l := by
  obtain ⟨Al, cl, Ac, cc, As, cs, sg, h1, h2, h3, h4, h5⟩ := h.mem
  exact ⟨Nat.lt_of_lt_of_le h.lt hb, h.low, h.ok, h.len, Al, cl, Ac, cc, As, cs, sg, h1, h2.more hb, h3.more hb, h4.more hb, h5⟩
/-- The code stands in whatever world holds the blocks from lo on as they are. -/
def HL (w : World) (lo B g : Nat) (l : List Nat) : Prop := ∀ w', (∀ k, lo ≤ k → k < B → w'.heap[k]? = w.heap[k]?) → HC w' B g l
theorem Row.agree {w w' : World} {lo B g : Nat} {cs : Array Value} {t : TypeId} (h : Row w g cs t) (ha : ∀ k, lo ≤ k → k < B → w'.heap[k]? = w.heap[k]?) (h1 : lo ≤ g) (h2 : g < B) : Row w' g cs t := by
  unfold Row; rw [ha g h1 h2]; exact h
theorem Rd.agree {w w' : World} {lo B : Nat} {A : Option Addr} {n : Nat} {xs : List Value} (h : Rd w B A n xs) (ha : ∀ k, lo ≤ k → k < B → w'.heap[k]? = w.heap[k]?) (h1 : ∀ b o, A = some ⟨b, o, none⟩ → lo ≤ b) : Rd w' B A n xs := by
  refine ⟨h.1, fun hn => ?_⟩
  obtain ⟨b, o, rfl, hlt, hc⟩ := h.2 hn
  exact ⟨b, o, rfl, hlt, fun j u hu => (World.cell?_of_block (w := w) (a := ⟨b, o + j, none⟩) (ha b (h1 b o rfl) hlt)).trans (hc j u hu)⟩
theorem Far.rd {w : World} {g G B : Nat} {A : Option Addr} {n : Nat} {xs : List Value} (h : Far w g G A n xs) (hB : G ≤ B) : Rd w B A n xs := by
  refine ⟨h.1, fun hn => ?_⟩
  obtain ⟨b, o, rfl, _, hlt, hc⟩ := h.2 hn
  exact ⟨b, o, rfl, by omega, hc⟩

set_option maxHeartbeats 2000000 in
set_option maxRecDepth 10000 in
theorem number_any (g : Nat) (A : Option Addr) (n cl : Nat) (l : List Nat) (w : World) (hrow : Row w g (hcells (.slice A n cl) (.slice none 0 0) (.slice none 0 0) (cnt l) (fst (cnt l))) 152)
    (hfar : Far w g w.heap.size A n (ia (lenAt l) n).toList) (hn : l.length = n) (hn3 : n ≤ 320) (hlow : Low l) (hok : okF (cnt l)) :
    Calls Tryz.prog 93 #[.pointer (some ⟨g, 0, none⟩)] w fun e w' => e = .returned (.tuple #[]) ∧ (HC w' w'.heap.size g l ∧ ∀ lo, lo ≤ g → (∀ b o, A = some ⟨b, o, none⟩ → lo ≤ b) → HL w' lo w'.heap.size g l) ∧ w.grownBy w' (some g) := by
  have HROW := Lib.hid hrow
  have HFAR := Lib.hid hfar
  have HN := Lib.hid hn
  have HLOW := Lib.hid hlow
  have HOK := Lib.hid hok
  clear hrow hfar hn hlow hok
  go_enter Tryz.func93, Tryz.ntmps93
  go_upto_region 0 with fail
  go_step
  refine alloc_row rfl 141 rfl _ 16 info114 ?_
  intro w1 r1 g1 s1
  have hlt := HROW.out.lt
  have HI : RowKit.Hid (NmbS w w1 g w.heap.size (.slice A n cl) A l (stTo (cnt l) 1)) := Lib.hid ⟨HROW.out.grown g1 (by simp), by rw [HN.out]; exact HFAR.out.grown g1 (Nat.le_refl _) (fun _ h => by cases h), by
      have : ia (stTo (cnt l) 1) 16 = ia (fun _ => 0) 16 := ia_congr fun i _ => by
        unfold stTo
        rcases i with _ | _ | i
        · rfl
        · rfl
        · rw [if_neg (by omega)]
      rw [this]; exact r1, hlt, s1, ⟨g1.os, g1.tape, g1.output, g1.size, fun k hk _ => g1.block k hk (by simp)⟩⟩
  have hne : g ≠ w.heap.size := by omega
  clear r1 g1 s1 hlt HROW HFAR
  generalize hG : w.heap.size = G at HI hne ⊢
  have HG := Lib.hid hG.symm
  clear hG
  have HC : RowKit.Hid (∀ k, cnt l k ≤ 320) := Lib.hid (fun k => Nat.le_trans (cnt_le l k) (by rw [HN.out]; exact hn3))
  have HSB : RowKit.Hid (∀ k, st (cnt l) k ≤ 1000 * k) := Lib.hid (fun k => st_bound (fun j => Nat.le_trans (HC.out j) (by decide)) k)
  go_wp2_with fail
  go_loopw [3] (fun i wr => ∃ j : Nat, 1 ≤ j ∧ j ≤ 15 ∧ i = .int .i64 ((j : Int) + 1) ∧ NmbS w wr g G (.slice A n cl) A l (stTo (cnt l) j)) (fun i _ => 16 - (intOf i).toNat)
  case atStart => exact ⟨1, by omega, by omega, rfl, HI.out⟩
  case round =>
    obtain ⟨j, hj1, hj, rfl, hI⟩ := hrel
    have HI := Lib.hid hI
    clear hI
    by_cases hj15 : j < 15
    · have hd : decide ((j : Int) + 1 ≤ 15) = true := decide_eq_true (by omega)
      have c1 := HI.out.starts.ia (show j < 16 by omega)
      rw [stTo_at] at c1
      have c2 := HI.out.code.cell (3 + j)
      rw [hcells_c _ _ _ _ _ (by omega)] at c2
      have c3 := HI.out.starts.ia (show j + 1 < 16 by omega)
      have c4 := HI.out.starts.thawed (j + 1)
      have HM := Lib.hid (stTo_more (cnt l) hj1)
      have hb1 := HSB.out j
      have hb2 := HC.out j
      generalize st (cnt l) j = S at HM hb1 c1
      generalize cnt l j = C at HM hb2 c2
      have hS : S ≤ 15000 := by omega
      clear hb1
      go_wp2_with fail
      go_region
      have HI2 := Lib.hid ((HI.out.set HG.out (j + 1) (S + C) ((S : Int) + (C : Int)) (by omega)).drew)
      rw [← HM.out] at HI2
      generalize (World.setCell _ _ _).drew = w3 at HI2 ⊢
      clear HI HM c1 c2 c3 c4
      go_wp2_with fail
      go_roundw
      case rel => exact ⟨j + 1, by omega, by omega, by simp, HI2.out⟩
      case measure => simp [intOf]; omega
    · obtain rfl : j = 15 := by omega
      have hd : decide (((15 : Nat) : Int) + 1 ≤ 15) = false := rfl
      have c0 := HI.out.code.cell 0
      rw [hcells_0] at c0
      have c1 := HI.out.code.cell 1
      rw [hcells_1] at c1
      have hst : ia (stTo (cnt l) 15) 16 = ia (st (cnt l)) 16 := ia_congr fun i hi => by unfold stTo; rw [if_pos (by omega)]
      have hstarts := HI.out.starts
      rw [hst] at hstarts
      have HST := Lib.hid hstarts
      clear hstarts hst
      go_wp2_with (with_reducible refine makeI _ rfl _ _ rfl n rfl rfl (by omega) ?_)
      intro w2 r2 g2 s2
      have hsz := HI.out.size
      have hf1 := (HI.out.code.grown g2 (by simp)).thawed 1
      have c1' := (HI.out.code.grown g2 (by simp)).cell 1
      rw [hcells_1] at c1'
      have HA := Lib.hid (show NmbA w (w2.setCell ⟨g, 1, none⟩ (.slice (some ⟨G + 1, 0, none⟩) n n)) g G (.slice A n cl) (.slice (some ⟨G + 1, 0, none⟩) n n) (.slice none 0 0) A l (fun _ => 0) from
        ⟨by have := (HI.out.code.grown g2 (by simp)).set 1 (.slice (some ⟨G + 1, 0, none⟩) n n); rwa [hcells_set1] at this,
          (HI.out.far.grown g2 (by omega) (fun _ h => by cases h)).grown (grown_setCell _ _ _ _) (by omega) (fun k hk => by injection hk with hk; exact .inl hk.symm),
          (HST.out.grown g2 (by simp)).other (by have := HI.out.lt; omega) _ _,
          by rw [← hsz, HN.out]; exact r2.other (by have := HI.out.lt; omega) _ _, HI.out.lt, by simp [World.setCell]; omega,
          ⟨g2.os.trans HI.out.keep.os, g2.tape.trans HI.out.keep.tape, g2.output.trans HI.out.keep.output, by have := HI.out.keep.size; simp [World.setCell]; omega, fun k hk hne => (heap_setCell_other w2 ⟨g, 1, none⟩ k _ (fun e => hne (by rw [show k = g from e]))).trans ((g2.block k (by have := HI.out.keep.size; omega) (by simp)).trans (HI.out.keep.block k hk hne))⟩⟩)
      have HS3 : RowKit.Hid ((w2.setCell ⟨g, 1, none⟩ (.slice (some ⟨G + 1, 0, none⟩) n n)).heap.size = G + 2) := Lib.hid (by simp [World.setCell]; omega)
      rw [hsz]
      clear HI r2 g2 s2 hsz c0 c1 HST
      go_wp2_with fail
      generalize w2.setCell _ _ = w3 at HA HS3 ⊢
      have k0 := HA.out.code.cell 0
      rw [hcells_0] at k0
      have k2 := HA.out.code.cell 2
      rw [hcells_2] at k2
      have k3 : w3.cell? ⟨g, 3, none⟩ = some (.int .i64 (cnt l 0 : Int)) := (HA.out.code.cell (3 + 0)).trans (hcells_c _ _ _ _ _ (by decide))
      have k4 := HA.out.code.thawed 2
      obtain ⟨m, hm⟩ : ∃ m, st (cnt l) 16 = m := ⟨_, rfl⟩
      have htot := st_total l HLOW.out
      rw [HN.out, hm] at htot
      have hsub : (n : Int) - (cnt l 0 : Int) = (m : Int) := by omega
      have HM := Lib.hid hm
      have HT := Lib.hid htot
      have hmk := makeI_run m (by omega)
      have hm3 : m ≤ 320 := by omega
      have hc3 := HC.out 0
      generalize cnt l 0 = Z at k3 hsub hc3
      have hgl : g < w3.heap.size := HA.out.code.lt
      clear hm htot
      go_region
      have HB2 : RowKit.Hid (NmbA w (((w3.setCell ⟨g, 2, none⟩ (.slice (some ⟨w3.heap.size, 0, none⟩) m m)).alloc (.cells (ia (fun _ => 0) m) 3)).drew) g G (.slice A n cl) (.slice (some ⟨G + 1, 0, none⟩) n n) (.slice (some ⟨w3.heap.size, 0, none⟩) m m) A l (fun _ => 0)) :=
        Lib.hid ((HA.out.setV _).grown HG.out (World.grownBy_alloc _ _ none) (fun k hk => by cases hk)).drew
      have HR2 : RowKit.Hid (Row (((w3.setCell ⟨g, 2, none⟩ (.slice (some ⟨w3.heap.size, 0, none⟩) m m)).alloc (.cells (ia (fun _ => 0) m) 3)).drew) (G + 2) (ia (fun _ => 0) m) 3) :=
        Lib.hid (by have := Row.new (w3.setCell ⟨g, 2, none⟩ (.slice (some ⟨w3.heap.size, 0, none⟩) m m)) (ia (fun _ => 0) m) 3; rw [show (w3.setCell ⟨g, 2, none⟩ (.slice (some ⟨w3.heap.size, 0, none⟩) m m)).heap.size = G + 2 by rw [← HS3.out]; simp [World.setCell]] at this; exact this)
      have HS4 : RowKit.Hid ((((w3.setCell ⟨g, 2, none⟩ (.slice (some ⟨w3.heap.size, 0, none⟩) m m)).alloc (.cells (ia (fun _ => 0) m) 3)).drew).heap.size = G + 3) := Lib.hid (by show ((w3.setCell _ _).alloc _).heap.size = _; have := HS3.out; simp [World.setCell]; omega)
      generalize ((w3.setCell ⟨g, 2, none⟩ (.slice (some ⟨w3.heap.size, 0, none⟩) m m)).alloc (.cells (ia (fun _ => 0) m) 3)).drew = w4 at HB2 HR2 HS4 ⊢
      rw [HS3.out] at HB2 ⊢
      clear HA HS3 k0 k2 k3 k4 hsub hmk hc3 hgl
      go_wp2_with (with_reducible refine halt_alloc 141 ?_)
      refine Lib.hid ?_
      refine alloc_row rfl 141 rfl _ 16 info114 ?_
      intro w5 r5 g5 s5
      have HM5 : RowKit.Hid (NmbM w w5 g G A n cl m l (codeTo l 0) (fun _ => 0) (givTo l 0)) := Lib.hid ⟨by
          have : codeTo l 0 = fun _ => 0 := by funext j; unfold codeTo; rw [if_neg (by omega)]
          rw [this]; exact HB2.out.grown HG.out g5 (fun _ h => by cases h), HR2.out.grown g5 (by simp), by
          have : givTo l 0 = fun _ => 0 := by funext j; unfold givTo; split <;> rfl
          rw [this, ← HS4.out]; exact r5⟩
      rw [HS4.out]
      clear HB2 HR2 HS4 r5 g5 s5
      have k0 := HM5.out.base.code.cell 0
      rw [hcells_0] at k0
      go_wp2_with fail
      clear k0
      go_loopw [54] (fun i wr => ∃ (k : Nat) (sg : Nat → Nat), k ≤ n ∧ i = .int .i64 (k : Int) ∧ NmbM w wr g G A n cl m l (codeTo l k) sg (givTo l k) ∧ SgOK l k sg) (fun i _ => n - (intOf i).toNat)
      case atStart => exact ⟨0, fun _ => 0, by omega, rfl, HM5.out, fun s hs => by omega⟩
      case round =>
        clear HM5
        obtain ⟨k, sg, hk, rfl, hI, hS⟩ := hrel
        have HI := Lib.hid hI
        have HSG := Lib.hid hS
        clear hI hS
        by_cases hkn : k < n
        · have hd : decide ((k : Int) < (n : Int)) = true := decide_eq_true (by omega)
          have hfar := HI.out.base.far
          rw [HN.out] at hfar
          obtain ⟨b, o, hA, hcl⟩ := hfar.at hkn
          subst hA
          clear hfar
          have hv15 := lenAt_low HLOW.out k
          have HKL : RowKit.Hid (k < l.length) := Lib.hid (by rw [HN.out]; exact hkn)
          by_cases hv : lenAt l k = 0
          · rw [hv] at hcl
            have HC1 := Lib.hid (codeTo_none hv)
            have HG1 := Lib.hid (givTo_none HKL.out hv)
            have HS1 := Lib.hid (HSG.out.none hv)
            clear hv hv15
            go_wp2_with fail
            go_roundw
            case rel => exact ⟨k + 1, sg, by omega, by simp, by rw [HC1.out, HG1.out]; exact HI.out, HS1.out⟩
            case measure => simp [intOf]; omega
          · have HC1 := Lib.hid (codeTo_more l k)
            have HG1 := Lib.hid (givTo_more HKL.out hv)
            have HS1 := Lib.hid (HSG.out.more hv)
            have hgv := HI.out.given.ia (show lenAt l k < 16 by omega)
            rw [givTo_at hv] at hgv
            have HGV := Lib.hid (givTo_at hv)
            have hff := HI.out.base.code.cell (19 + lenAt l k)
            rw [hcells_f _ _ _ _ _ (by omega)] at hff
            have hF := fst_le HOK.out (show lenAt l k ≤ 16 by omega)
            have hF2 : fst (cnt l) (lenAt l k) ≤ 65536 := Nat.le_trans hF (Nat.pow_le_pow_right (by decide) (show lenAt l k ≤ 16 by omega))
            have hR := rank_lt HKL.out
            have hR2 := HC.out (lenAt l k)
            have hR3 : rank l k ≤ 320 := by omega
            have HCE := Lib.hid (code_eq hv)
            have hss := HI.out.base.starts.ia (show lenAt l k < 16 by omega)
            have hv16 : lenAt l k < 16 := by omega
            have hsb := HSB.out (lenAt l k)
            have hsb2 : st (cnt l) (lenAt l k) ≤ 16000 := by omega
            have hP := pos_lt HLOW.out hv
            rw [HM.out] at hP
            have hPe : posAt l k = st (cnt l) (lenAt l k) + rank l k := rfl
            obtain ⟨P, HP⟩ : ∃ P, RowKit.Hid (posAt l k = P) := ⟨_, Lib.hid rfl⟩
            rw [HP.out] at hP hPe HS1
            have hcc := HI.out.base.codes.ia (show k < l.length from HKL.out)
            have hct := HI.out.base.codes.thawed k
            have hc1 := HI.out.base.code.cell 1
            rw [hcells_1] at hc1
            generalize fst (cnt l) (lenAt l k) = F at hff hF hF2 HCE
            obtain ⟨S, HS0⟩ : ∃ S, RowKit.Hid (st (cnt l) (lenAt l k) = S) := ⟨_, Lib.hid rfl⟩
            rw [HS0.out] at hss hsb2 hPe hsb
            generalize rank l k = R at hgv hR hR3 HCE hPe HG1 HGV
            have hPi : (S : Int) + (R : Int) = (P : Int) := by omega
            have hvz : ((lenAt l k : Int) == 0) = false := by rw [beq_eq_false_iff_ne]; omega
            generalize lenAt l k = v at *
            clear hF hR hR2 hsb hPe hv
            generalize codeTo l k k = y1 at hcc
            go_wp2_with fail
            go_region
            have HI4 := Lib.hid (HI.out.setCodes HG.out k (F + R) ((F : Int) + (R : Int)) (by omega)).drew
            rw [← HCE.out, ← HC1.out] at HI4
            generalize (World.setCell _ _ _).drew = w6 at HI4 ⊢
            clear HI hgv hff hcc hct hc1 hss
            have hc2 := HI4.out.base.code.cell 2
            rw [hcells_2] at hc2
            have hss := HI4.out.base.starts.ia hv16
            rw [HS0.out] at hss
            have hgv := HI4.out.given.ia hv16
            rw [HGV.out] at hgv
            have hsc := HI4.out.signs.ia hP
            have hst := HI4.out.signs.thawed P
            generalize sg P = y2 at hsc
            go_wp2_with fail
            go_region
            have HI5 := Lib.hid (HI4.out.setSigns HG.out P k (k : Int) rfl).drew
            generalize (World.setCell _ _ _).drew = w7 at HI5 ⊢
            clear HI4 hc2 hss hgv hsc hst
            have hgv := HI5.out.given.ia hv16
            rw [HGV.out] at hgv
            have hgt := HI5.out.given.thawed v
            go_wp2_with fail
            go_roundw
            case rel => exact ⟨k + 1, _, by omega, by simp, by rw [HG1.out]; exact HI5.out.setGiven HG.out v (R + 1) _ (by omega), HS1.out⟩
            case measure => simp [intOf]; omega
        · obtain rfl : k = n := by omega
          have hd : decide ((k : Int) < (k : Int)) = false := decide_eq_false (by omega)
          go_wp2_with fail
          refine bodyPost_end (results_none rfl _ _ _) rfl ?_
          have hkl := HN.out
          have hall : codeTo l k = codeTo l l.length := by rw [hkl]
          have hcd : ia (codeTo l l.length) l.length = ia (codeAt l) l.length := ia_congr fun i hi => by unfold codeTo; rw [if_pos hi]
          have hbase := HI.out.base
          have hcodes := hbase.codes
          rw [hall, hcd] at hcodes
          have hcode := hbase.code
          have hsigns := HI.out.signs
          have hok := HSG.out
          rw [← HM.out] at hcode hsigns
          rw [← hkl] at hcode hok
          have hlt : g < wr.heap.size := by have := hbase.size; have := hbase.lt; omega
          have hlen : l.length ≤ 320 := by rw [hkl]; exact hn3
          refine ⟨rfl, ⟨⟨hlt, HLOW.out, HOK.out, hlen, A, cl, _, _, _, _, sg, hcode, hbase.far.rd (by have := hbase.size; omega), hcodes.rdI (by have := hbase.size; omega), hsigns.rdI hsigns.lt, hok⟩, fun lo h1 h2 w' ha => ?_⟩, hbase.keep⟩
          have h3 := hbase.lt
          exact ⟨hlt, HLOW.out, HOK.out, hlen, A, cl, _, _, _, _, sg, hcode.agree ha h1 hlt, (hbase.far.rd (by have := hbase.size; omega)).agree ha h2, (hcodes.agree ha (by omega) hcodes.lt).rdI hcodes.lt, (hsigns.agree ha (by omega) hsigns.lt).rdI hsigns.lt, hok⟩
end Go.Proofs.YtpnnlhegncbfaaaGreatDoor
namespace Go.Proofs.YtpnnlhegncbfaaaGreatDoor
set_option maxRecDepth 20000
open Go.RowKit

theorem ev_same (a : Act) (i : Nat) (v : Value) (h : i < a.tmps.size) : (a.put (some i) v).eval (.tmp i) = v := by
  simp [Act.put, Act.eval, h]
theorem ev_ne (a : Act) (i j : Nat) (v : Value) (h : i ≠ j) : (a.put (some i) v).eval (.tmp j) = a.eval (.tmp j) := by
  simp [Act.put, Act.eval, h]
theorem put_size (a : Act) (i : Nat) (v : Value) : (a.put (some i) v).tmps.size = a.tmps.size := by simp [Act.put]
abbrev PG (g : Nat) (o : Nat) : Value := .pointer (some ⟨g, o, none⟩)
section
variable {ops : Array Oper} {o : Oper} {a : Act} {K : Act → World → Prop} {Q : Exit → Act → World → Prop} {E : Prop} {w : World}
theorem step_load_g {P : Program} (hw : Region.wanted o (yielded ops a.tmps) = true) (ty : TypeId) (x : Operand) (ho : o.op = .load ty x) (g : Nat) (hx : a.eval x = .pointer (some ⟨g, 0, none⟩)) (t : TypeId) (cs : Array Value) (d : TypeDesc)
    (hg : Row w g cs t) (hu : P.underlying ty = some d) (hd : (match d with | .struct _ | .array _ _ => true | _ => false) = true) (hi : (P.info? ty).map (·.size) = some cs.size)
    (h : K (a.put o.dst (.agg cs)) w) : if Region.wanted o (yielded ops a.tmps) = true then Oper.wp P o a w K Q else E := by
  rw [if_pos hw]
  unfold Oper.wp execOp
  simp only [ho, hx, Instr.loadAt, Instr.sureAddr, Sem.run_bind, Sem.run_pure, Result.andThen_ok, run_loadVar_row w g t ty cs (0, 0) d hg hu hd hi]
  exact h
theorem step_box {P : Program} (hw : Region.wanted o (yielded ops a.tmps) = true) (ty : TypeId) (x : Operand) (ho : o.op = .box ty x) (cs : Array Value) (hx : a.eval x = .agg cs)
    (h : K (a.put o.dst (.pointer (some ⟨w.heap.size, 0, none⟩))) (w.alloc (.cells cs ty))) : if Region.wanted o (yielded ops a.tmps) = true then Oper.wp P o a w K Q else E := by
  rw [if_pos hw]
  unfold Oper.wp execOp
  simp only [ho, hx, Instr.box, newVar, Value.cells]
  exact h
theorem step_call1 (hw : Region.wanted o (yielded ops a.tmps) = true) (f : Nat) (vs : Array Value) (hrun : ∀ w, (execOp a.eval o).run Tryz.prog w = .ok (.enter f vs) w)
    (h : Calls Tryz.prog f vs w fun
      | .returned v, w'' => K (a.put o.dst v) w''
      | .panicked chain, w'' => Q (.panic chain) a w''
      | .outgrown, _ => LetsOut Q) : if Region.wanted o (yielded ops a.tmps) = true then Oper.wp Tryz.prog o a w K Q else E := by
  rw [if_pos hw]
  unfold Oper.wp
  rw [hrun w, Oper.upon_enter]
  exact h
end
theorem run_call32 (ρ : Operand → Value) (o : Oper) (x : Operand) (v : Value) (ho : o.op = .call { callee := .value (.func 92), args := #[x], argTypes := #[64] }) (hf : ρ (.func 92) = .func (.func 92) #[] #[]) (e : ρ x = v) (w : World) : (execOp ρ o).run Tryz.prog w = .ok (.enter 92 #[v]) w := by
  unfold execOp
  simp only [ho]
  go_simp
theorem built118 (A1 : Option Addr) (m c1 : Nat) (cf ff : Nat → Nat) : Tryz.prog.built 152 [(0, .slice A1 m c1), (3, .agg (ia cf 16)), (4, .agg (ia ff 17))] = some (hcells (.slice A1 m c1) (.slice none 0 0) (.slice none 0 0) cf ff) := by kernel_rfl
theorem run_build73 (a : Act) (o : Oper) (ho : o.op = .build 152 #[(0, .tmp 43), (3, .tmp 44), (4, .tmp 45)]) (A1 : Option Addr) (m c1 : Nat) (cf ff : Nat → Nat) (e1 : a.eval (.tmp 43) = .slice A1 m c1) (e2 : a.eval (.tmp 44) = .agg (ia cf 16)) (e3 : a.eval (.tmp 45) = .agg (ia ff 17)) (w : World) :
    (execOp a.eval o).run Tryz.prog w = .ok (.value (.agg (hcells (.slice A1 m c1) (.slice none 0 0) (.slice none 0 0) cf ff))) w := by
  unfold execOp
  simp only [ho]
  have hb : Tryz.prog.built 152 ((#[(0, Operand.tmp 43), (3, Operand.tmp 44), (4, Operand.tmp 45)].map fun (i, x) => (i, a.eval x)).toList) = some (hcells (.slice A1 m c1) (.slice none 0 0) (.slice none 0 0) cf ff) := by
    simp only [List.map_toArray, List.map_cons, List.map_nil, e1, e2, e3]
    exact built118 A1 m c1 cf ff
  simp only [Sem.run_bind, run_build w 152 _ _ hb, Result.andThen_ok]
  rfl
/-- The region's operations. -/
def ops8 : Array Oper := #[{ dst := some 42, op := Op.move (Operand.tmp 0), type := 64, pos := "huff.go:49", after := #[], guard := none }, { dst := some 43, op := Op.call { callee := Callee.value (Operand.func 92), args := #[Operand.tmp 42], argTypes := #[64] }, type := 64, pos := "huff.go:49", after := #[{ on := 0, ground := Ground.data }], guard := none }, { dst := some 44, op := Op.load 141 (Operand.tmp 6), type := 141, pos := "huff.go:49", after := #[], guard := none }, { dst := some 45, op := Op.load 145 (Operand.tmp 8), type := 145, pos := "huff.go:49", after := #[], guard := none }, { dst := some 46, op := Op.build 152 #[(0, Operand.tmp 43), (3, Operand.tmp 44), (4, Operand.tmp 45)], type := 152, pos := "huff.go:49", after := #[{ on := 1, ground := Ground.data }, { on := 2, ground := Ground.data }, { on := 3, ground := Ground.data }], guard := none }, { dst := some 47, op := Op.box 152 (Operand.tmp 46), type := 98, pos := "huff.go:49", after := #[{ on := 4, ground := Ground.data }], guard := none }, { dst := some 9, op := Op.assign (Operand.tmp 47), type := 98, pos := "huff.go:49", after := #[{ on := 5, ground := Ground.data }, { on := 1, ground := Ground.chain }, { on := 0, ground := Ground.phase }, { on := 1, ground := Ground.phase }, { on := 2, ground := Ground.phase }, { on := 3, ground := Ground.phase }, { on := 4, ground := Ground.phase }, { on := 5, ground := Ground.phase }], guard := none }]

set_option maxHeartbeats 1000000 in
set_option maxRecDepth 10000 in
theorem region11 (a : Act) (w : World) (Q : Exit → Act → World → Prop) (A : Option Addr) (n c p q : Nat) (L : List Int) (cf ff : Nat → Nat) (hs : a.tmps.size = 51) (h0 : a.eval (.tmp 0) = .slice A n c) (h6 : a.eval (.tmp 6) = PG p 0) (h8 : a.eval (.tmp 8) = PG q 0)
    (hr : Rd w w.heap.size A n (is L)) (hA : A = none → c = 0) (hn : n ≤ 1000000) (hrp : Row w p (ia cf 16) 141) (hrq : Row w q (ia ff 17) 145)
    (hQp : ∀ c a (i : Nat) v w, Q (.panic c) (a.put (some i) v) w → Q (.panic c) a w)
    (hq : ∀ a' w' A1 c1, a'.tmps.size = 51 → a'.defers = a.defers → a'.eval (.tmp 9) = PG w'.heap.size 0 → OwnI w' w.heap.size (.slice A1 L.length c1) L → w.grownBy w' none →
      Q .normal a' (w'.alloc (.cells (hcells (.slice A1 L.length c1) (.slice none 0 0) (.slice none 0 0) cf ff) 152))) :
    (Code.region 11 ops8 true).wp Tryz.prog Q a w := by
  refine wp_region_any (by kernel_rfl) ?_
  change wpAny _ _ _ _ _ _ _ (World.drew _)
  have hrp : Row w.drew p (ia cf 16) 141 := hrp
  have hrq : Row w.drew q (ia ff 17) 145 := hrq
  have hr : Rd w.drew w.drew.heap.size A n (is L) := hr
  have hq : ∀ a' w' A1 c1, a'.tmps.size = 51 → a'.defers = a.defers → a'.eval (.tmp 9) = PG w'.heap.size 0 → OwnI w' w.drew.heap.size (.slice A1 L.length c1) L → w.drew.grownBy w' none →
      Q .normal a' (w'.alloc (.cells (hcells (.slice A1 L.length c1) (.slice none 0 0) (.slice none 0 0) cf ff) 152)) := fun a' w' A1 c1 x1 x2 x3 x4 hy => hq a' w' A1 c1 x1 x2 x3 x4 ⟨hy.os, hy.tape, hy.output, hy.size, hy.block⟩
  generalize w.drew = w at hrp hrq hr hq ⊢
  show wpAny _ _ ops8 Q 7 (Array.replicate 7 false) a w
  refine wpAny_take (i := 0) (fuel := 6) (oi := { dst := some 42, op := Op.move (Operand.tmp 0), type := 64, pos := "huff.go:49", after := #[], guard := none }) (v := .slice A n c) rfl (by kernel_rfl) (by kernel_rfl) (by kernel_rfl) (fun c a w h => hQp c a _ _ w h) (Or.inl ⟨rfl, fun w => ?_⟩) ?_
  · exact congrArg (fun v => Result.ok (Next.value v) w) h0
  change wpAny _ _ ops8 Q 6 _ (a.put (some 42) (.slice A n c)) w
  have hsBc1 : (a.put (some 42) (.slice A n c)).tmps.size = 51 := by rw [put_size, hs]
  have hdBc1 : (a.put (some 42) (.slice A n c)).defers = a.defers := rfl
  have eBc1_42 := ev_same a 42 (.slice A n c) (by rw [hs]; decide)
  have eBc1_0 := (ev_ne a 42 0 (.slice A n c) (by decide)).trans h0
  have eBc1_6 := (ev_ne a 42 6 (.slice A n c) (by decide)).trans h6
  have eBc1_8 := (ev_ne a 42 8 (.slice A n c) (by decide)).trans h8
  generalize a.put (some 42) (.slice A n c) = Bc1 at hsBc1 hdBc1 eBc1_42 eBc1_0 eBc1_6 eBc1_8 ⊢
  refine wpAny_ready (rs := [1, 2, 3]) (fuel := 5) (by kernel_rfl) (by decide) ?_
  refine AllReady.cons (o := { dst := some 43, op := Op.call { callee := Callee.value (Operand.func 92), args := #[Operand.tmp 42], argTypes := #[64] }, type := 64, pos := "huff.go:49", after := #[{ on := 0, ground := Ground.data }], guard := none }) rfl (fun K hK => ?_) ?_
  · skip
    refine step_call1 rfl 92 _ (run_call32 _ _ _ _ rfl rfl eBc1_42) ?_
    refine (cloneI_any A n c L w hr hA hn).mono ?_
    rintro e w1 ⟨v, rfl, hov, hgv⟩
    obtain ⟨A1, c1, rfl⟩ := hov.slice
    have rp1 := hrp.grown hgv (by simp)
    have rq1 := hrq.grown hgv (by simp)
    refine hK _ _ ?_
    clear hK K
    change wpAny _ _ ops8 Q 5 _ (Bc1.put (some 43) (.slice A1 L.length c1)) w1
    have hsBca2 : (Bc1.put (some 43) (.slice A1 L.length c1)).tmps.size = 51 := by rw [put_size, hsBc1]
    have hdBca2 : (Bc1.put (some 43) (.slice A1 L.length c1)).defers = a.defers := hdBc1
    have eBca2_43 := ev_same Bc1 43 (.slice A1 L.length c1) (by rw [hsBc1]; decide)
    have eBca2_42 := (ev_ne Bc1 43 42 (.slice A1 L.length c1) (by decide)).trans eBc1_42
    have eBca2_0 := (ev_ne Bc1 43 0 (.slice A1 L.length c1) (by decide)).trans eBc1_0
    have eBca2_6 := (ev_ne Bc1 43 6 (.slice A1 L.length c1) (by decide)).trans eBc1_6
    have eBca2_8 := (ev_ne Bc1 43 8 (.slice A1 L.length c1) (by decide)).trans eBc1_8
    generalize Bc1.put (some 43) (.slice A1 L.length c1) = Bca2 at hsBca2 hdBca2 eBca2_43 eBca2_42 eBca2_0 eBca2_6 eBca2_8 ⊢
    clear eBc1_42 eBc1_0 eBc1_6 eBc1_8 hsBc1 hdBc1
    refine wpAny_ready (rs := [2, 3]) (fuel := 4) (by kernel_rfl) (by decide) ?_
    refine AllReady.cons (o := { dst := some 44, op := Op.load 141 (Operand.tmp 6), type := 141, pos := "huff.go:49", after := #[], guard := none }) rfl (fun K hK => ?_) ?_
    · skip
      refine step_load_g rfl 141 _ rfl p eBca2_6 _ (ia cf 16) _ rp1 Tryz.underlying141 rfl (by rw [size114, ia_size]) ?_
      refine hK _ _ ?_
      clear hK K
      change wpAny _ _ ops8 Q 4 _ (Bca2.put (some 44) (.agg (ia cf 16))) w1
      have hsBcaa3 : (Bca2.put (some 44) (.agg (ia cf 16))).tmps.size = 51 := by rw [put_size, hsBca2]
      have hdBcaa3 : (Bca2.put (some 44) (.agg (ia cf 16))).defers = a.defers := hdBca2
      have eBcaa3_44 := ev_same Bca2 44 (.agg (ia cf 16)) (by rw [hsBca2]; decide)
      have eBcaa3_43 := (ev_ne Bca2 44 43 (.agg (ia cf 16)) (by decide)).trans eBca2_43
      have eBcaa3_42 := (ev_ne Bca2 44 42 (.agg (ia cf 16)) (by decide)).trans eBca2_42
      have eBcaa3_0 := (ev_ne Bca2 44 0 (.agg (ia cf 16)) (by decide)).trans eBca2_0
      have eBcaa3_6 := (ev_ne Bca2 44 6 (.agg (ia cf 16)) (by decide)).trans eBca2_6
      have eBcaa3_8 := (ev_ne Bca2 44 8 (.agg (ia cf 16)) (by decide)).trans eBca2_8
      generalize Bca2.put (some 44) (.agg (ia cf 16)) = Bcaa3 at hsBcaa3 hdBcaa3 eBcaa3_44 eBcaa3_43 eBcaa3_42 eBcaa3_0 eBcaa3_6 eBcaa3_8 ⊢
      clear eBca2_43 eBca2_42 eBca2_0 eBca2_6 eBca2_8 hsBca2 hdBca2
      refine wpAny_ready (rs := [3]) (fuel := 3) (by kernel_rfl) (by decide) ?_
      refine AllReady.cons (o := { dst := some 45, op := Op.load 145 (Operand.tmp 8), type := 145, pos := "huff.go:49", after := #[], guard := none }) rfl (fun K hK => ?_) AllReady.nil
      refine step_load_g rfl 145 _ rfl q eBcaa3_8 _ (ia ff 17) _ rq1 Tryz.underlying145 rfl (by rw [size116, ia_size]) ?_
      refine hK _ _ ?_
      clear hK K
      change wpAny _ _ ops8 Q 3 _ (Bcaa3.put (some 45) (.agg (ia ff 17))) w1
      have hsBcaaa4 : (Bcaa3.put (some 45) (.agg (ia ff 17))).tmps.size = 51 := by rw [put_size, hsBcaa3]
      have hdBcaaa4 : (Bcaa3.put (some 45) (.agg (ia ff 17))).defers = a.defers := hdBcaa3
      have eBcaaa4_45 := ev_same Bcaa3 45 (.agg (ia ff 17)) (by rw [hsBcaa3]; decide)
      have eBcaaa4_44 := (ev_ne Bcaa3 45 44 (.agg (ia ff 17)) (by decide)).trans eBcaa3_44
      have eBcaaa4_43 := (ev_ne Bcaa3 45 43 (.agg (ia ff 17)) (by decide)).trans eBcaa3_43
      have eBcaaa4_42 := (ev_ne Bcaa3 45 42 (.agg (ia ff 17)) (by decide)).trans eBcaa3_42
      have eBcaaa4_0 := (ev_ne Bcaa3 45 0 (.agg (ia ff 17)) (by decide)).trans eBcaa3_0
      have eBcaaa4_6 := (ev_ne Bcaa3 45 6 (.agg (ia ff 17)) (by decide)).trans eBcaa3_6
      have eBcaaa4_8 := (ev_ne Bcaa3 45 8 (.agg (ia ff 17)) (by decide)).trans eBcaa3_8
      generalize Bcaa3.put (some 45) (.agg (ia ff 17)) = Bcaaa4 at hsBcaaa4 hdBcaaa4 eBcaaa4_45 eBcaaa4_44 eBcaaa4_43 eBcaaa4_42 eBcaaa4_0 eBcaaa4_6 eBcaaa4_8 ⊢
      clear eBcaa3_44 eBcaa3_43 eBcaa3_42 eBcaa3_0 eBcaa3_6 eBcaa3_8 hsBcaa3 hdBcaa3
      refine wpAny_take (i := 4) (fuel := 2) (oi := { dst := some 46, op := Op.build 152 #[(0, Operand.tmp 43), (3, Operand.tmp 44), (4, Operand.tmp 45)], type := 152, pos := "huff.go:49", after := #[{ on := 1, ground := Ground.data }, { on := 2, ground := Ground.data }, { on := 3, ground := Ground.data }], guard := none }) (v := .agg (hcells (.slice A1 L.length c1) (.slice none 0 0) (.slice none 0 0) cf ff)) rfl (by kernel_rfl) (by kernel_rfl) (by kernel_rfl) (fun c a w h => hQp c a _ _ w h) (Or.inl ⟨rfl, fun w => ?_⟩) ?_
      · have e1 := eBcaaa4_43
        have e2 := eBcaaa4_44
        have e3 := eBcaaa4_45
        exact run_build73 _ _ rfl _ _ _ _ _ e1 e2 e3 w
      change wpAny _ _ ops8 Q 2 _ (Bcaaa4.put (some 46) (.agg (hcells (.slice A1 L.length c1) (.slice none 0 0) (.slice none 0 0) cf ff))) w1
      have hsBcaaa5 : (Bcaaa4.put (some 46) (.agg (hcells (.slice A1 L.length c1) (.slice none 0 0) (.slice none 0 0) cf ff))).tmps.size = 51 := by rw [put_size, hsBcaaa4]
      have hdBcaaa5 : (Bcaaa4.put (some 46) (.agg (hcells (.slice A1 L.length c1) (.slice none 0 0) (.slice none 0 0) cf ff))).defers = a.defers := hdBcaaa4
      have eBcaaa5_46 := ev_same Bcaaa4 46 (.agg (hcells (.slice A1 L.length c1) (.slice none 0 0) (.slice none 0 0) cf ff)) (by rw [hsBcaaa4]; decide)
      have eBcaaa5_45 := (ev_ne Bcaaa4 46 45 (.agg (hcells (.slice A1 L.length c1) (.slice none 0 0) (.slice none 0 0) cf ff)) (by decide)).trans eBcaaa4_45
      have eBcaaa5_44 := (ev_ne Bcaaa4 46 44 (.agg (hcells (.slice A1 L.length c1) (.slice none 0 0) (.slice none 0 0) cf ff)) (by decide)).trans eBcaaa4_44
      have eBcaaa5_43 := (ev_ne Bcaaa4 46 43 (.agg (hcells (.slice A1 L.length c1) (.slice none 0 0) (.slice none 0 0) cf ff)) (by decide)).trans eBcaaa4_43
      have eBcaaa5_42 := (ev_ne Bcaaa4 46 42 (.agg (hcells (.slice A1 L.length c1) (.slice none 0 0) (.slice none 0 0) cf ff)) (by decide)).trans eBcaaa4_42
      have eBcaaa5_0 := (ev_ne Bcaaa4 46 0 (.agg (hcells (.slice A1 L.length c1) (.slice none 0 0) (.slice none 0 0) cf ff)) (by decide)).trans eBcaaa4_0
      have eBcaaa5_6 := (ev_ne Bcaaa4 46 6 (.agg (hcells (.slice A1 L.length c1) (.slice none 0 0) (.slice none 0 0) cf ff)) (by decide)).trans eBcaaa4_6
      have eBcaaa5_8 := (ev_ne Bcaaa4 46 8 (.agg (hcells (.slice A1 L.length c1) (.slice none 0 0) (.slice none 0 0) cf ff)) (by decide)).trans eBcaaa4_8
      generalize Bcaaa4.put (some 46) (.agg (hcells (.slice A1 L.length c1) (.slice none 0 0) (.slice none 0 0) cf ff)) = Bcaaa5 at hsBcaaa5 hdBcaaa5 eBcaaa5_46 eBcaaa5_45 eBcaaa5_44 eBcaaa5_43 eBcaaa5_42 eBcaaa5_0 eBcaaa5_6 eBcaaa5_8 ⊢
      clear eBcaaa4_45 eBcaaa4_44 eBcaaa4_43 eBcaaa4_42 eBcaaa4_0 eBcaaa4_6 eBcaaa4_8 hsBcaaa4 hdBcaaa4
      refine wpAny_ready (rs := [5]) (fuel := 1) (by kernel_rfl) (by decide) ?_
      refine AllReady.cons (o := { dst := some 47, op := Op.box 152 (Operand.tmp 46), type := 98, pos := "huff.go:49", after := #[{ on := 4, ground := Ground.data }], guard := none }) rfl (fun K hK => ?_) AllReady.nil
      refine step_box rfl 152 _ rfl (hcells (.slice A1 L.length c1) (.slice none 0 0) (.slice none 0 0) cf ff) eBcaaa5_46 ?_
      refine hK _ _ ?_
      clear hK K
      change wpAny _ _ ops8 Q 1 _ (Bcaaa5.put (some 47) (PG w1.heap.size 0)) (w1.alloc (.cells (hcells (.slice A1 L.length c1) (.slice none 0 0) (.slice none 0 0) cf ff) 152))
      have hsBcaaa6 : (Bcaaa5.put (some 47) (PG w1.heap.size 0)).tmps.size = 51 := by rw [put_size, hsBcaaa5]
      have hdBcaaa6 : (Bcaaa5.put (some 47) (PG w1.heap.size 0)).defers = a.defers := hdBcaaa5
      have eBcaaa6_47 := ev_same Bcaaa5 47 (PG w1.heap.size 0) (by rw [hsBcaaa5]; decide)
      have eBcaaa6_46 := (ev_ne Bcaaa5 47 46 (PG w1.heap.size 0) (by decide)).trans eBcaaa5_46
      have eBcaaa6_45 := (ev_ne Bcaaa5 47 45 (PG w1.heap.size 0) (by decide)).trans eBcaaa5_45
      have eBcaaa6_44 := (ev_ne Bcaaa5 47 44 (PG w1.heap.size 0) (by decide)).trans eBcaaa5_44
      have eBcaaa6_43 := (ev_ne Bcaaa5 47 43 (PG w1.heap.size 0) (by decide)).trans eBcaaa5_43
      have eBcaaa6_42 := (ev_ne Bcaaa5 47 42 (PG w1.heap.size 0) (by decide)).trans eBcaaa5_42
      have eBcaaa6_0 := (ev_ne Bcaaa5 47 0 (PG w1.heap.size 0) (by decide)).trans eBcaaa5_0
      have eBcaaa6_6 := (ev_ne Bcaaa5 47 6 (PG w1.heap.size 0) (by decide)).trans eBcaaa5_6
      have eBcaaa6_8 := (ev_ne Bcaaa5 47 8 (PG w1.heap.size 0) (by decide)).trans eBcaaa5_8
      generalize Bcaaa5.put (some 47) (PG w1.heap.size 0) = Bcaaa6 at hsBcaaa6 hdBcaaa6 eBcaaa6_47 eBcaaa6_46 eBcaaa6_45 eBcaaa6_44 eBcaaa6_43 eBcaaa6_42 eBcaaa6_0 eBcaaa6_6 eBcaaa6_8 ⊢
      clear eBcaaa5_46 eBcaaa5_45 eBcaaa5_44 eBcaaa5_43 eBcaaa5_42 eBcaaa5_0 eBcaaa5_6 eBcaaa5_8 hsBcaaa5 hdBcaaa5
      refine wpAny_take (i := 6) (fuel := 0) (oi := { dst := some 9, op := Op.assign (Operand.tmp 47), type := 98, pos := "huff.go:49", after := #[{ on := 5, ground := Ground.data }, { on := 1, ground := Ground.chain }, { on := 0, ground := Ground.phase }, { on := 1, ground := Ground.phase }, { on := 2, ground := Ground.phase }, { on := 3, ground := Ground.phase }, { on := 4, ground := Ground.phase }, { on := 5, ground := Ground.phase }], guard := none }) (v := PG w1.heap.size 0) rfl (by kernel_rfl) (by kernel_rfl) (by kernel_rfl) (fun c a w h => hQp c a _ _ w h) (Or.inl ⟨rfl, fun w => ?_⟩) ?_
      · exact congrArg (fun v => Result.ok (Next.value v) w) eBcaaa6_47
      change wpAny _ _ ops8 Q 0 _ (Bcaaa6.put (some 9) (PG w1.heap.size 0)) (w1.alloc (.cells (hcells (.slice A1 L.length c1) (.slice none 0 0) (.slice none 0 0) cf ff) 152))
      have hsBcaaa7 : (Bcaaa6.put (some 9) (PG w1.heap.size 0)).tmps.size = 51 := by rw [put_size, hsBcaaa6]
      have hdBcaaa7 : (Bcaaa6.put (some 9) (PG w1.heap.size 0)).defers = a.defers := hdBcaaa6
      have eBcaaa7_9 := ev_same Bcaaa6 9 (PG w1.heap.size 0) (by rw [hsBcaaa6]; decide)
      have eBcaaa7_47 := (ev_ne Bcaaa6 9 47 (PG w1.heap.size 0) (by decide)).trans eBcaaa6_47
      have eBcaaa7_46 := (ev_ne Bcaaa6 9 46 (PG w1.heap.size 0) (by decide)).trans eBcaaa6_46
      have eBcaaa7_45 := (ev_ne Bcaaa6 9 45 (PG w1.heap.size 0) (by decide)).trans eBcaaa6_45
      have eBcaaa7_44 := (ev_ne Bcaaa6 9 44 (PG w1.heap.size 0) (by decide)).trans eBcaaa6_44
      have eBcaaa7_43 := (ev_ne Bcaaa6 9 43 (PG w1.heap.size 0) (by decide)).trans eBcaaa6_43
      have eBcaaa7_42 := (ev_ne Bcaaa6 9 42 (PG w1.heap.size 0) (by decide)).trans eBcaaa6_42
      have eBcaaa7_0 := (ev_ne Bcaaa6 9 0 (PG w1.heap.size 0) (by decide)).trans eBcaaa6_0
      have eBcaaa7_6 := (ev_ne Bcaaa6 9 6 (PG w1.heap.size 0) (by decide)).trans eBcaaa6_6
      have eBcaaa7_8 := (ev_ne Bcaaa6 9 8 (PG w1.heap.size 0) (by decide)).trans eBcaaa6_8
      generalize Bcaaa6.put (some 9) (PG w1.heap.size 0) = Bcaaa7 at hsBcaaa7 hdBcaaa7 eBcaaa7_9 eBcaaa7_47 eBcaaa7_46 eBcaaa7_45 eBcaaa7_44 eBcaaa7_43 eBcaaa7_42 eBcaaa7_0 eBcaaa7_6 eBcaaa7_8 ⊢
      clear eBcaaa6_47 eBcaaa6_46 eBcaaa6_45 eBcaaa6_44 eBcaaa6_43 eBcaaa6_42 eBcaaa6_0 eBcaaa6_6 eBcaaa6_8 hsBcaaa6 hdBcaaa6
      refine wpAny_done (by kernel_rfl) ?_ _
      exact hq _ w1 A1 c1 hsBcaaa7 hdBcaaa7 eBcaaa7_9 hov hgv
    refine AllReady.cons (o := { dst := some 45, op := Op.load 145 (Operand.tmp 8), type := 145, pos := "huff.go:49", after := #[], guard := none }) rfl (fun K hK => ?_) AllReady.nil
    refine step_load_g rfl 145 _ rfl q eBca2_8 _ (ia ff 17) _ rq1 Tryz.underlying145 rfl (by rw [size116, ia_size]) ?_
    refine hK _ _ ?_
    clear hK K
    change wpAny _ _ ops8 Q 4 _ (Bca2.put (some 45) (.agg (ia ff 17))) w1
    have hsBcab3 : (Bca2.put (some 45) (.agg (ia ff 17))).tmps.size = 51 := by rw [put_size, hsBca2]
    have hdBcab3 : (Bca2.put (some 45) (.agg (ia ff 17))).defers = a.defers := hdBca2
    have eBcab3_45 := ev_same Bca2 45 (.agg (ia ff 17)) (by rw [hsBca2]; decide)
    have eBcab3_43 := (ev_ne Bca2 45 43 (.agg (ia ff 17)) (by decide)).trans eBca2_43
    have eBcab3_42 := (ev_ne Bca2 45 42 (.agg (ia ff 17)) (by decide)).trans eBca2_42
    have eBcab3_0 := (ev_ne Bca2 45 0 (.agg (ia ff 17)) (by decide)).trans eBca2_0
    have eBcab3_6 := (ev_ne Bca2 45 6 (.agg (ia ff 17)) (by decide)).trans eBca2_6
    have eBcab3_8 := (ev_ne Bca2 45 8 (.agg (ia ff 17)) (by decide)).trans eBca2_8
    generalize Bca2.put (some 45) (.agg (ia ff 17)) = Bcab3 at hsBcab3 hdBcab3 eBcab3_45 eBcab3_43 eBcab3_42 eBcab3_0 eBcab3_6 eBcab3_8 ⊢
    clear eBca2_43 eBca2_42 eBca2_0 eBca2_6 eBca2_8 hsBca2 hdBca2
    refine wpAny_ready (rs := [2]) (fuel := 3) (by kernel_rfl) (by decide) ?_
    refine AllReady.cons (o := { dst := some 44, op := Op.load 141 (Operand.tmp 6), type := 141, pos := "huff.go:49", after := #[], guard := none }) rfl (fun K hK => ?_) AllReady.nil
    refine step_load_g rfl 141 _ rfl p eBcab3_6 _ (ia cf 16) _ rp1 Tryz.underlying141 rfl (by rw [size114, ia_size]) ?_
    refine hK _ _ ?_
    clear hK K
    change wpAny _ _ ops8 Q 3 _ (Bcab3.put (some 44) (.agg (ia cf 16))) w1
    have hsBcaba4 : (Bcab3.put (some 44) (.agg (ia cf 16))).tmps.size = 51 := by rw [put_size, hsBcab3]
    have hdBcaba4 : (Bcab3.put (some 44) (.agg (ia cf 16))).defers = a.defers := hdBcab3
    have eBcaba4_44 := ev_same Bcab3 44 (.agg (ia cf 16)) (by rw [hsBcab3]; decide)
    have eBcaba4_45 := (ev_ne Bcab3 44 45 (.agg (ia cf 16)) (by decide)).trans eBcab3_45
    have eBcaba4_43 := (ev_ne Bcab3 44 43 (.agg (ia cf 16)) (by decide)).trans eBcab3_43
    have eBcaba4_42 := (ev_ne Bcab3 44 42 (.agg (ia cf 16)) (by decide)).trans eBcab3_42
    have eBcaba4_0 := (ev_ne Bcab3 44 0 (.agg (ia cf 16)) (by decide)).trans eBcab3_0
    have eBcaba4_6 := (ev_ne Bcab3 44 6 (.agg (ia cf 16)) (by decide)).trans eBcab3_6
    have eBcaba4_8 := (ev_ne Bcab3 44 8 (.agg (ia cf 16)) (by decide)).trans eBcab3_8
    generalize Bcab3.put (some 44) (.agg (ia cf 16)) = Bcaba4 at hsBcaba4 hdBcaba4 eBcaba4_44 eBcaba4_45 eBcaba4_43 eBcaba4_42 eBcaba4_0 eBcaba4_6 eBcaba4_8 ⊢
    clear eBcab3_45 eBcab3_43 eBcab3_42 eBcab3_0 eBcab3_6 eBcab3_8 hsBcab3 hdBcab3
    refine wpAny_take (i := 4) (fuel := 2) (oi := { dst := some 46, op := Op.build 152 #[(0, Operand.tmp 43), (3, Operand.tmp 44), (4, Operand.tmp 45)], type := 152, pos := "huff.go:49", after := #[{ on := 1, ground := Ground.data }, { on := 2, ground := Ground.data }, { on := 3, ground := Ground.data }], guard := none }) (v := .agg (hcells (.slice A1 L.length c1) (.slice none 0 0) (.slice none 0 0) cf ff)) rfl (by kernel_rfl) (by kernel_rfl) (by kernel_rfl) (fun c a w h => hQp c a _ _ w h) (Or.inl ⟨rfl, fun w => ?_⟩) ?_
    · have e1 := eBcaba4_43
      have e2 := eBcaba4_44
      have e3 := eBcaba4_45
      exact run_build73 _ _ rfl _ _ _ _ _ e1 e2 e3 w
    change wpAny _ _ ops8 Q 2 _ (Bcaba4.put (some 46) (.agg (hcells (.slice A1 L.length c1) (.slice none 0 0) (.slice none 0 0) cf ff))) w1
    have hsBcaba5 : (Bcaba4.put (some 46) (.agg (hcells (.slice A1 L.length c1) (.slice none 0 0) (.slice none 0 0) cf ff))).tmps.size = 51 := by rw [put_size, hsBcaba4]
    have hdBcaba5 : (Bcaba4.put (some 46) (.agg (hcells (.slice A1 L.length c1) (.slice none 0 0) (.slice none 0 0) cf ff))).defers = a.defers := hdBcaba4
    have eBcaba5_46 := ev_same Bcaba4 46 (.agg (hcells (.slice A1 L.length c1) (.slice none 0 0) (.slice none 0 0) cf ff)) (by rw [hsBcaba4]; decide)
    have eBcaba5_44 := (ev_ne Bcaba4 46 44 (.agg (hcells (.slice A1 L.length c1) (.slice none 0 0) (.slice none 0 0) cf ff)) (by decide)).trans eBcaba4_44
    have eBcaba5_45 := (ev_ne Bcaba4 46 45 (.agg (hcells (.slice A1 L.length c1) (.slice none 0 0) (.slice none 0 0) cf ff)) (by decide)).trans eBcaba4_45
    have eBcaba5_43 := (ev_ne Bcaba4 46 43 (.agg (hcells (.slice A1 L.length c1) (.slice none 0 0) (.slice none 0 0) cf ff)) (by decide)).trans eBcaba4_43
    have eBcaba5_42 := (ev_ne Bcaba4 46 42 (.agg (hcells (.slice A1 L.length c1) (.slice none 0 0) (.slice none 0 0) cf ff)) (by decide)).trans eBcaba4_42
    have eBcaba5_0 := (ev_ne Bcaba4 46 0 (.agg (hcells (.slice A1 L.length c1) (.slice none 0 0) (.slice none 0 0) cf ff)) (by decide)).trans eBcaba4_0
    have eBcaba5_6 := (ev_ne Bcaba4 46 6 (.agg (hcells (.slice A1 L.length c1) (.slice none 0 0) (.slice none 0 0) cf ff)) (by decide)).trans eBcaba4_6
    have eBcaba5_8 := (ev_ne Bcaba4 46 8 (.agg (hcells (.slice A1 L.length c1) (.slice none 0 0) (.slice none 0 0) cf ff)) (by decide)).trans eBcaba4_8
    generalize Bcaba4.put (some 46) (.agg (hcells (.slice A1 L.length c1) (.slice none 0 0) (.slice none 0 0) cf ff)) = Bcaba5 at hsBcaba5 hdBcaba5 eBcaba5_46 eBcaba5_44 eBcaba5_45 eBcaba5_43 eBcaba5_42 eBcaba5_0 eBcaba5_6 eBcaba5_8 ⊢
    clear eBcaba4_44 eBcaba4_45 eBcaba4_43 eBcaba4_42 eBcaba4_0 eBcaba4_6 eBcaba4_8 hsBcaba4 hdBcaba4
    refine wpAny_ready (rs := [5]) (fuel := 1) (by kernel_rfl) (by decide) ?_
    refine AllReady.cons (o := { dst := some 47, op := Op.box 152 (Operand.tmp 46), type := 98, pos := "huff.go:49", after := #[{ on := 4, ground := Ground.data }], guard := none }) rfl (fun K hK => ?_) AllReady.nil
    refine step_box rfl 152 _ rfl (hcells (.slice A1 L.length c1) (.slice none 0 0) (.slice none 0 0) cf ff) eBcaba5_46 ?_
    refine hK _ _ ?_
    clear hK K
    change wpAny _ _ ops8 Q 1 _ (Bcaba5.put (some 47) (PG w1.heap.size 0)) (w1.alloc (.cells (hcells (.slice A1 L.length c1) (.slice none 0 0) (.slice none 0 0) cf ff) 152))
    have hsBcaba6 : (Bcaba5.put (some 47) (PG w1.heap.size 0)).tmps.size = 51 := by rw [put_size, hsBcaba5]
    have hdBcaba6 : (Bcaba5.put (some 47) (PG w1.heap.size 0)).defers = a.defers := hdBcaba5
    have eBcaba6_47 := ev_same Bcaba5 47 (PG w1.heap.size 0) (by rw [hsBcaba5]; decide)
    have eBcaba6_46 := (ev_ne Bcaba5 47 46 (PG w1.heap.size 0) (by decide)).trans eBcaba5_46
    have eBcaba6_44 := (ev_ne Bcaba5 47 44 (PG w1.heap.size 0) (by decide)).trans eBcaba5_44
    have eBcaba6_45 := (ev_ne Bcaba5 47 45 (PG w1.heap.size 0) (by decide)).trans eBcaba5_45
    have eBcaba6_43 := (ev_ne Bcaba5 47 43 (PG w1.heap.size 0) (by decide)).trans eBcaba5_43
    have eBcaba6_42 := (ev_ne Bcaba5 47 42 (PG w1.heap.size 0) (by decide)).trans eBcaba5_42
    have eBcaba6_0 := (ev_ne Bcaba5 47 0 (PG w1.heap.size 0) (by decide)).trans eBcaba5_0
    have eBcaba6_6 := (ev_ne Bcaba5 47 6 (PG w1.heap.size 0) (by decide)).trans eBcaba5_6
    have eBcaba6_8 := (ev_ne Bcaba5 47 8 (PG w1.heap.size 0) (by decide)).trans eBcaba5_8
    generalize Bcaba5.put (some 47) (PG w1.heap.size 0) = Bcaba6 at hsBcaba6 hdBcaba6 eBcaba6_47 eBcaba6_46 eBcaba6_44 eBcaba6_45 eBcaba6_43 eBcaba6_42 eBcaba6_0 eBcaba6_6 eBcaba6_8 ⊢
    clear eBcaba5_46 eBcaba5_44 eBcaba5_45 eBcaba5_43 eBcaba5_42 eBcaba5_0 eBcaba5_6 eBcaba5_8 hsBcaba5 hdBcaba5
    refine wpAny_take (i := 6) (fuel := 0) (oi := { dst := some 9, op := Op.assign (Operand.tmp 47), type := 98, pos := "huff.go:49", after := #[{ on := 5, ground := Ground.data }, { on := 1, ground := Ground.chain }, { on := 0, ground := Ground.phase }, { on := 1, ground := Ground.phase }, { on := 2, ground := Ground.phase }, { on := 3, ground := Ground.phase }, { on := 4, ground := Ground.phase }, { on := 5, ground := Ground.phase }], guard := none }) (v := PG w1.heap.size 0) rfl (by kernel_rfl) (by kernel_rfl) (by kernel_rfl) (fun c a w h => hQp c a _ _ w h) (Or.inl ⟨rfl, fun w => ?_⟩) ?_
    · exact congrArg (fun v => Result.ok (Next.value v) w) eBcaba6_47
    change wpAny _ _ ops8 Q 0 _ (Bcaba6.put (some 9) (PG w1.heap.size 0)) (w1.alloc (.cells (hcells (.slice A1 L.length c1) (.slice none 0 0) (.slice none 0 0) cf ff) 152))
    have hsBcaba7 : (Bcaba6.put (some 9) (PG w1.heap.size 0)).tmps.size = 51 := by rw [put_size, hsBcaba6]
    have hdBcaba7 : (Bcaba6.put (some 9) (PG w1.heap.size 0)).defers = a.defers := hdBcaba6
    have eBcaba7_9 := ev_same Bcaba6 9 (PG w1.heap.size 0) (by rw [hsBcaba6]; decide)
    have eBcaba7_47 := (ev_ne Bcaba6 9 47 (PG w1.heap.size 0) (by decide)).trans eBcaba6_47
    have eBcaba7_46 := (ev_ne Bcaba6 9 46 (PG w1.heap.size 0) (by decide)).trans eBcaba6_46
    have eBcaba7_44 := (ev_ne Bcaba6 9 44 (PG w1.heap.size 0) (by decide)).trans eBcaba6_44
    have eBcaba7_45 := (ev_ne Bcaba6 9 45 (PG w1.heap.size 0) (by decide)).trans eBcaba6_45
    have eBcaba7_43 := (ev_ne Bcaba6 9 43 (PG w1.heap.size 0) (by decide)).trans eBcaba6_43
    have eBcaba7_42 := (ev_ne Bcaba6 9 42 (PG w1.heap.size 0) (by decide)).trans eBcaba6_42
    have eBcaba7_0 := (ev_ne Bcaba6 9 0 (PG w1.heap.size 0) (by decide)).trans eBcaba6_0
    have eBcaba7_6 := (ev_ne Bcaba6 9 6 (PG w1.heap.size 0) (by decide)).trans eBcaba6_6
    have eBcaba7_8 := (ev_ne Bcaba6 9 8 (PG w1.heap.size 0) (by decide)).trans eBcaba6_8
    generalize Bcaba6.put (some 9) (PG w1.heap.size 0) = Bcaba7 at hsBcaba7 hdBcaba7 eBcaba7_9 eBcaba7_47 eBcaba7_46 eBcaba7_44 eBcaba7_45 eBcaba7_43 eBcaba7_42 eBcaba7_0 eBcaba7_6 eBcaba7_8 ⊢
    clear eBcaba6_47 eBcaba6_46 eBcaba6_44 eBcaba6_45 eBcaba6_43 eBcaba6_42 eBcaba6_0 eBcaba6_6 eBcaba6_8 hsBcaba6 hdBcaba6
    refine wpAny_done (by kernel_rfl) ?_ _
    exact hq _ w1 A1 c1 hsBcaba7 hdBcaba7 eBcaba7_9 hov hgv
  refine AllReady.cons (o := { dst := some 44, op := Op.load 141 (Operand.tmp 6), type := 141, pos := "huff.go:49", after := #[], guard := none }) rfl (fun K hK => ?_) ?_
  · skip
    refine step_load_g rfl 141 _ rfl p eBc1_6 _ (ia cf 16) _ hrp Tryz.underlying141 rfl (by rw [size114, ia_size]) ?_
    refine hK _ _ ?_
    clear hK K
    change wpAny _ _ ops8 Q 5 _ (Bc1.put (some 44) (.agg (ia cf 16))) w
    have hsBcb2 : (Bc1.put (some 44) (.agg (ia cf 16))).tmps.size = 51 := by rw [put_size, hsBc1]
    have hdBcb2 : (Bc1.put (some 44) (.agg (ia cf 16))).defers = a.defers := hdBc1
    have eBcb2_44 := ev_same Bc1 44 (.agg (ia cf 16)) (by rw [hsBc1]; decide)
    have eBcb2_42 := (ev_ne Bc1 44 42 (.agg (ia cf 16)) (by decide)).trans eBc1_42
    have eBcb2_0 := (ev_ne Bc1 44 0 (.agg (ia cf 16)) (by decide)).trans eBc1_0
    have eBcb2_6 := (ev_ne Bc1 44 6 (.agg (ia cf 16)) (by decide)).trans eBc1_6
    have eBcb2_8 := (ev_ne Bc1 44 8 (.agg (ia cf 16)) (by decide)).trans eBc1_8
    generalize Bc1.put (some 44) (.agg (ia cf 16)) = Bcb2 at hsBcb2 hdBcb2 eBcb2_44 eBcb2_42 eBcb2_0 eBcb2_6 eBcb2_8 ⊢
    clear eBc1_42 eBc1_0 eBc1_6 eBc1_8 hsBc1 hdBc1
    refine wpAny_ready (rs := [1, 3]) (fuel := 4) (by kernel_rfl) (by decide) ?_
    refine AllReady.cons (o := { dst := some 43, op := Op.call { callee := Callee.value (Operand.func 92), args := #[Operand.tmp 42], argTypes := #[64] }, type := 64, pos := "huff.go:49", after := #[{ on := 0, ground := Ground.data }], guard := none }) rfl (fun K hK => ?_) ?_
    · skip
      refine step_call1 rfl 92 _ (run_call32 _ _ _ _ rfl rfl eBcb2_42) ?_
      refine (cloneI_any A n c L w hr hA hn).mono ?_
      rintro e w1 ⟨v, rfl, hov, hgv⟩
      obtain ⟨A1, c1, rfl⟩ := hov.slice
      have rp1 := hrp.grown hgv (by simp)
      have rq1 := hrq.grown hgv (by simp)
      refine hK _ _ ?_
      clear hK K
      change wpAny _ _ ops8 Q 4 _ (Bcb2.put (some 43) (.slice A1 L.length c1)) w1
      have hsBcba3 : (Bcb2.put (some 43) (.slice A1 L.length c1)).tmps.size = 51 := by rw [put_size, hsBcb2]
      have hdBcba3 : (Bcb2.put (some 43) (.slice A1 L.length c1)).defers = a.defers := hdBcb2
      have eBcba3_43 := ev_same Bcb2 43 (.slice A1 L.length c1) (by rw [hsBcb2]; decide)
      have eBcba3_44 := (ev_ne Bcb2 43 44 (.slice A1 L.length c1) (by decide)).trans eBcb2_44
      have eBcba3_42 := (ev_ne Bcb2 43 42 (.slice A1 L.length c1) (by decide)).trans eBcb2_42
      have eBcba3_0 := (ev_ne Bcb2 43 0 (.slice A1 L.length c1) (by decide)).trans eBcb2_0
      have eBcba3_6 := (ev_ne Bcb2 43 6 (.slice A1 L.length c1) (by decide)).trans eBcb2_6
      have eBcba3_8 := (ev_ne Bcb2 43 8 (.slice A1 L.length c1) (by decide)).trans eBcb2_8
      generalize Bcb2.put (some 43) (.slice A1 L.length c1) = Bcba3 at hsBcba3 hdBcba3 eBcba3_43 eBcba3_44 eBcba3_42 eBcba3_0 eBcba3_6 eBcba3_8 ⊢
      clear eBcb2_44 eBcb2_42 eBcb2_0 eBcb2_6 eBcb2_8 hsBcb2 hdBcb2
      refine wpAny_ready (rs := [3]) (fuel := 3) (by kernel_rfl) (by decide) ?_
      refine AllReady.cons (o := { dst := some 45, op := Op.load 145 (Operand.tmp 8), type := 145, pos := "huff.go:49", after := #[], guard := none }) rfl (fun K hK => ?_) AllReady.nil
      refine step_load_g rfl 145 _ rfl q eBcba3_8 _ (ia ff 17) _ rq1 Tryz.underlying145 rfl (by rw [size116, ia_size]) ?_
      refine hK _ _ ?_
      clear hK K
      change wpAny _ _ ops8 Q 3 _ (Bcba3.put (some 45) (.agg (ia ff 17))) w1
      have hsBcbaa4 : (Bcba3.put (some 45) (.agg (ia ff 17))).tmps.size = 51 := by rw [put_size, hsBcba3]
      have hdBcbaa4 : (Bcba3.put (some 45) (.agg (ia ff 17))).defers = a.defers := hdBcba3
      have eBcbaa4_45 := ev_same Bcba3 45 (.agg (ia ff 17)) (by rw [hsBcba3]; decide)
      have eBcbaa4_43 := (ev_ne Bcba3 45 43 (.agg (ia ff 17)) (by decide)).trans eBcba3_43
      have eBcbaa4_44 := (ev_ne Bcba3 45 44 (.agg (ia ff 17)) (by decide)).trans eBcba3_44
      have eBcbaa4_42 := (ev_ne Bcba3 45 42 (.agg (ia ff 17)) (by decide)).trans eBcba3_42
      have eBcbaa4_0 := (ev_ne Bcba3 45 0 (.agg (ia ff 17)) (by decide)).trans eBcba3_0
      have eBcbaa4_6 := (ev_ne Bcba3 45 6 (.agg (ia ff 17)) (by decide)).trans eBcba3_6
      have eBcbaa4_8 := (ev_ne Bcba3 45 8 (.agg (ia ff 17)) (by decide)).trans eBcba3_8
      generalize Bcba3.put (some 45) (.agg (ia ff 17)) = Bcbaa4 at hsBcbaa4 hdBcbaa4 eBcbaa4_45 eBcbaa4_43 eBcbaa4_44 eBcbaa4_42 eBcbaa4_0 eBcbaa4_6 eBcbaa4_8 ⊢
      clear eBcba3_43 eBcba3_44 eBcba3_42 eBcba3_0 eBcba3_6 eBcba3_8 hsBcba3 hdBcba3
      refine wpAny_take (i := 4) (fuel := 2) (oi := { dst := some 46, op := Op.build 152 #[(0, Operand.tmp 43), (3, Operand.tmp 44), (4, Operand.tmp 45)], type := 152, pos := "huff.go:49", after := #[{ on := 1, ground := Ground.data }, { on := 2, ground := Ground.data }, { on := 3, ground := Ground.data }], guard := none }) (v := .agg (hcells (.slice A1 L.length c1) (.slice none 0 0) (.slice none 0 0) cf ff)) rfl (by kernel_rfl) (by kernel_rfl) (by kernel_rfl) (fun c a w h => hQp c a _ _ w h) (Or.inl ⟨rfl, fun w => ?_⟩) ?_
      · have e1 := eBcbaa4_43
        have e2 := eBcbaa4_44
        have e3 := eBcbaa4_45
        exact run_build73 _ _ rfl _ _ _ _ _ e1 e2 e3 w
      change wpAny _ _ ops8 Q 2 _ (Bcbaa4.put (some 46) (.agg (hcells (.slice A1 L.length c1) (.slice none 0 0) (.slice none 0 0) cf ff))) w1
      have hsBcbaa5 : (Bcbaa4.put (some 46) (.agg (hcells (.slice A1 L.length c1) (.slice none 0 0) (.slice none 0 0) cf ff))).tmps.size = 51 := by rw [put_size, hsBcbaa4]
      have hdBcbaa5 : (Bcbaa4.put (some 46) (.agg (hcells (.slice A1 L.length c1) (.slice none 0 0) (.slice none 0 0) cf ff))).defers = a.defers := hdBcbaa4
      have eBcbaa5_46 := ev_same Bcbaa4 46 (.agg (hcells (.slice A1 L.length c1) (.slice none 0 0) (.slice none 0 0) cf ff)) (by rw [hsBcbaa4]; decide)
      have eBcbaa5_45 := (ev_ne Bcbaa4 46 45 (.agg (hcells (.slice A1 L.length c1) (.slice none 0 0) (.slice none 0 0) cf ff)) (by decide)).trans eBcbaa4_45
      have eBcbaa5_43 := (ev_ne Bcbaa4 46 43 (.agg (hcells (.slice A1 L.length c1) (.slice none 0 0) (.slice none 0 0) cf ff)) (by decide)).trans eBcbaa4_43
      have eBcbaa5_44 := (ev_ne Bcbaa4 46 44 (.agg (hcells (.slice A1 L.length c1) (.slice none 0 0) (.slice none 0 0) cf ff)) (by decide)).trans eBcbaa4_44
      have eBcbaa5_42 := (ev_ne Bcbaa4 46 42 (.agg (hcells (.slice A1 L.length c1) (.slice none 0 0) (.slice none 0 0) cf ff)) (by decide)).trans eBcbaa4_42
      have eBcbaa5_0 := (ev_ne Bcbaa4 46 0 (.agg (hcells (.slice A1 L.length c1) (.slice none 0 0) (.slice none 0 0) cf ff)) (by decide)).trans eBcbaa4_0
      have eBcbaa5_6 := (ev_ne Bcbaa4 46 6 (.agg (hcells (.slice A1 L.length c1) (.slice none 0 0) (.slice none 0 0) cf ff)) (by decide)).trans eBcbaa4_6
      have eBcbaa5_8 := (ev_ne Bcbaa4 46 8 (.agg (hcells (.slice A1 L.length c1) (.slice none 0 0) (.slice none 0 0) cf ff)) (by decide)).trans eBcbaa4_8
      generalize Bcbaa4.put (some 46) (.agg (hcells (.slice A1 L.length c1) (.slice none 0 0) (.slice none 0 0) cf ff)) = Bcbaa5 at hsBcbaa5 hdBcbaa5 eBcbaa5_46 eBcbaa5_45 eBcbaa5_43 eBcbaa5_44 eBcbaa5_42 eBcbaa5_0 eBcbaa5_6 eBcbaa5_8 ⊢
      clear eBcbaa4_45 eBcbaa4_43 eBcbaa4_44 eBcbaa4_42 eBcbaa4_0 eBcbaa4_6 eBcbaa4_8 hsBcbaa4 hdBcbaa4
      refine wpAny_ready (rs := [5]) (fuel := 1) (by kernel_rfl) (by decide) ?_
      refine AllReady.cons (o := { dst := some 47, op := Op.box 152 (Operand.tmp 46), type := 98, pos := "huff.go:49", after := #[{ on := 4, ground := Ground.data }], guard := none }) rfl (fun K hK => ?_) AllReady.nil
      refine step_box rfl 152 _ rfl (hcells (.slice A1 L.length c1) (.slice none 0 0) (.slice none 0 0) cf ff) eBcbaa5_46 ?_
      refine hK _ _ ?_
      clear hK K
      change wpAny _ _ ops8 Q 1 _ (Bcbaa5.put (some 47) (PG w1.heap.size 0)) (w1.alloc (.cells (hcells (.slice A1 L.length c1) (.slice none 0 0) (.slice none 0 0) cf ff) 152))
      have hsBcbaa6 : (Bcbaa5.put (some 47) (PG w1.heap.size 0)).tmps.size = 51 := by rw [put_size, hsBcbaa5]
      have hdBcbaa6 : (Bcbaa5.put (some 47) (PG w1.heap.size 0)).defers = a.defers := hdBcbaa5
      have eBcbaa6_47 := ev_same Bcbaa5 47 (PG w1.heap.size 0) (by rw [hsBcbaa5]; decide)
      have eBcbaa6_46 := (ev_ne Bcbaa5 47 46 (PG w1.heap.size 0) (by decide)).trans eBcbaa5_46
      have eBcbaa6_45 := (ev_ne Bcbaa5 47 45 (PG w1.heap.size 0) (by decide)).trans eBcbaa5_45
      have eBcbaa6_43 := (ev_ne Bcbaa5 47 43 (PG w1.heap.size 0) (by decide)).trans eBcbaa5_43
      have eBcbaa6_44 := (ev_ne Bcbaa5 47 44 (PG w1.heap.size 0) (by decide)).trans eBcbaa5_44
      have eBcbaa6_42 := (ev_ne Bcbaa5 47 42 (PG w1.heap.size 0) (by decide)).trans eBcbaa5_42
      have eBcbaa6_0 := (ev_ne Bcbaa5 47 0 (PG w1.heap.size 0) (by decide)).trans eBcbaa5_0
      have eBcbaa6_6 := (ev_ne Bcbaa5 47 6 (PG w1.heap.size 0) (by decide)).trans eBcbaa5_6
      have eBcbaa6_8 := (ev_ne Bcbaa5 47 8 (PG w1.heap.size 0) (by decide)).trans eBcbaa5_8
      generalize Bcbaa5.put (some 47) (PG w1.heap.size 0) = Bcbaa6 at hsBcbaa6 hdBcbaa6 eBcbaa6_47 eBcbaa6_46 eBcbaa6_45 eBcbaa6_43 eBcbaa6_44 eBcbaa6_42 eBcbaa6_0 eBcbaa6_6 eBcbaa6_8 ⊢
      clear eBcbaa5_46 eBcbaa5_45 eBcbaa5_43 eBcbaa5_44 eBcbaa5_42 eBcbaa5_0 eBcbaa5_6 eBcbaa5_8 hsBcbaa5 hdBcbaa5
      refine wpAny_take (i := 6) (fuel := 0) (oi := { dst := some 9, op := Op.assign (Operand.tmp 47), type := 98, pos := "huff.go:49", after := #[{ on := 5, ground := Ground.data }, { on := 1, ground := Ground.chain }, { on := 0, ground := Ground.phase }, { on := 1, ground := Ground.phase }, { on := 2, ground := Ground.phase }, { on := 3, ground := Ground.phase }, { on := 4, ground := Ground.phase }, { on := 5, ground := Ground.phase }], guard := none }) (v := PG w1.heap.size 0) rfl (by kernel_rfl) (by kernel_rfl) (by kernel_rfl) (fun c a w h => hQp c a _ _ w h) (Or.inl ⟨rfl, fun w => ?_⟩) ?_
      · exact congrArg (fun v => Result.ok (Next.value v) w) eBcbaa6_47
      change wpAny _ _ ops8 Q 0 _ (Bcbaa6.put (some 9) (PG w1.heap.size 0)) (w1.alloc (.cells (hcells (.slice A1 L.length c1) (.slice none 0 0) (.slice none 0 0) cf ff) 152))
      have hsBcbaa7 : (Bcbaa6.put (some 9) (PG w1.heap.size 0)).tmps.size = 51 := by rw [put_size, hsBcbaa6]
      have hdBcbaa7 : (Bcbaa6.put (some 9) (PG w1.heap.size 0)).defers = a.defers := hdBcbaa6
      have eBcbaa7_9 := ev_same Bcbaa6 9 (PG w1.heap.size 0) (by rw [hsBcbaa6]; decide)
      have eBcbaa7_47 := (ev_ne Bcbaa6 9 47 (PG w1.heap.size 0) (by decide)).trans eBcbaa6_47
      have eBcbaa7_46 := (ev_ne Bcbaa6 9 46 (PG w1.heap.size 0) (by decide)).trans eBcbaa6_46
      have eBcbaa7_45 := (ev_ne Bcbaa6 9 45 (PG w1.heap.size 0) (by decide)).trans eBcbaa6_45
      have eBcbaa7_43 := (ev_ne Bcbaa6 9 43 (PG w1.heap.size 0) (by decide)).trans eBcbaa6_43
      have eBcbaa7_44 := (ev_ne Bcbaa6 9 44 (PG w1.heap.size 0) (by decide)).trans eBcbaa6_44
      have eBcbaa7_42 := (ev_ne Bcbaa6 9 42 (PG w1.heap.size 0) (by decide)).trans eBcbaa6_42
      have eBcbaa7_0 := (ev_ne Bcbaa6 9 0 (PG w1.heap.size 0) (by decide)).trans eBcbaa6_0
      have eBcbaa7_6 := (ev_ne Bcbaa6 9 6 (PG w1.heap.size 0) (by decide)).trans eBcbaa6_6
      have eBcbaa7_8 := (ev_ne Bcbaa6 9 8 (PG w1.heap.size 0) (by decide)).trans eBcbaa6_8
      generalize Bcbaa6.put (some 9) (PG w1.heap.size 0) = Bcbaa7 at hsBcbaa7 hdBcbaa7 eBcbaa7_9 eBcbaa7_47 eBcbaa7_46 eBcbaa7_45 eBcbaa7_43 eBcbaa7_44 eBcbaa7_42 eBcbaa7_0 eBcbaa7_6 eBcbaa7_8 ⊢
      clear eBcbaa6_47 eBcbaa6_46 eBcbaa6_45 eBcbaa6_43 eBcbaa6_44 eBcbaa6_42 eBcbaa6_0 eBcbaa6_6 eBcbaa6_8 hsBcbaa6 hdBcbaa6
      refine wpAny_done (by kernel_rfl) ?_ _
      exact hq _ w1 A1 c1 hsBcbaa7 hdBcbaa7 eBcbaa7_9 hov hgv
    refine AllReady.cons (o := { dst := some 45, op := Op.load 145 (Operand.tmp 8), type := 145, pos := "huff.go:49", after := #[], guard := none }) rfl (fun K hK => ?_) AllReady.nil
    refine step_load_g rfl 145 _ rfl q eBcb2_8 _ (ia ff 17) _ hrq Tryz.underlying145 rfl (by rw [size116, ia_size]) ?_
    refine hK _ _ ?_
    clear hK K
    change wpAny _ _ ops8 Q 4 _ (Bcb2.put (some 45) (.agg (ia ff 17))) w
    have hsBcbb3 : (Bcb2.put (some 45) (.agg (ia ff 17))).tmps.size = 51 := by rw [put_size, hsBcb2]
    have hdBcbb3 : (Bcb2.put (some 45) (.agg (ia ff 17))).defers = a.defers := hdBcb2
    have eBcbb3_45 := ev_same Bcb2 45 (.agg (ia ff 17)) (by rw [hsBcb2]; decide)
    have eBcbb3_44 := (ev_ne Bcb2 45 44 (.agg (ia ff 17)) (by decide)).trans eBcb2_44
    have eBcbb3_42 := (ev_ne Bcb2 45 42 (.agg (ia ff 17)) (by decide)).trans eBcb2_42
    have eBcbb3_0 := (ev_ne Bcb2 45 0 (.agg (ia ff 17)) (by decide)).trans eBcb2_0
    have eBcbb3_6 := (ev_ne Bcb2 45 6 (.agg (ia ff 17)) (by decide)).trans eBcb2_6
    have eBcbb3_8 := (ev_ne Bcb2 45 8 (.agg (ia ff 17)) (by decide)).trans eBcb2_8
    generalize Bcb2.put (some 45) (.agg (ia ff 17)) = Bcbb3 at hsBcbb3 hdBcbb3 eBcbb3_45 eBcbb3_44 eBcbb3_42 eBcbb3_0 eBcbb3_6 eBcbb3_8 ⊢
    clear eBcb2_44 eBcb2_42 eBcb2_0 eBcb2_6 eBcb2_8 hsBcb2 hdBcb2
    refine wpAny_ready (rs := [1]) (fuel := 3) (by kernel_rfl) (by decide) ?_
    refine AllReady.cons (o := { dst := some 43, op := Op.call { callee := Callee.value (Operand.func 92), args := #[Operand.tmp 42], argTypes := #[64] }, type := 64, pos := "huff.go:49", after := #[{ on := 0, ground := Ground.data }], guard := none }) rfl (fun K hK => ?_) AllReady.nil
    refine step_call1 rfl 92 _ (run_call32 _ _ _ _ rfl rfl eBcbb3_42) ?_
    refine (cloneI_any A n c L w hr hA hn).mono ?_
    rintro e w1 ⟨v, rfl, hov, hgv⟩
    obtain ⟨A1, c1, rfl⟩ := hov.slice
    have rp1 := hrp.grown hgv (by simp)
    have rq1 := hrq.grown hgv (by simp)
    refine hK _ _ ?_
    clear hK K
    change wpAny _ _ ops8 Q 3 _ (Bcbb3.put (some 43) (.slice A1 L.length c1)) w1
    have hsBcbba4 : (Bcbb3.put (some 43) (.slice A1 L.length c1)).tmps.size = 51 := by rw [put_size, hsBcbb3]
    have hdBcbba4 : (Bcbb3.put (some 43) (.slice A1 L.length c1)).defers = a.defers := hdBcbb3
    have eBcbba4_43 := ev_same Bcbb3 43 (.slice A1 L.length c1) (by rw [hsBcbb3]; decide)
    have eBcbba4_45 := (ev_ne Bcbb3 43 45 (.slice A1 L.length c1) (by decide)).trans eBcbb3_45
    have eBcbba4_44 := (ev_ne Bcbb3 43 44 (.slice A1 L.length c1) (by decide)).trans eBcbb3_44
    have eBcbba4_42 := (ev_ne Bcbb3 43 42 (.slice A1 L.length c1) (by decide)).trans eBcbb3_42
    have eBcbba4_0 := (ev_ne Bcbb3 43 0 (.slice A1 L.length c1) (by decide)).trans eBcbb3_0
    have eBcbba4_6 := (ev_ne Bcbb3 43 6 (.slice A1 L.length c1) (by decide)).trans eBcbb3_6
    have eBcbba4_8 := (ev_ne Bcbb3 43 8 (.slice A1 L.length c1) (by decide)).trans eBcbb3_8
    generalize Bcbb3.put (some 43) (.slice A1 L.length c1) = Bcbba4 at hsBcbba4 hdBcbba4 eBcbba4_43 eBcbba4_45 eBcbba4_44 eBcbba4_42 eBcbba4_0 eBcbba4_6 eBcbba4_8 ⊢
    clear eBcbb3_45 eBcbb3_44 eBcbb3_42 eBcbb3_0 eBcbb3_6 eBcbb3_8 hsBcbb3 hdBcbb3
    refine wpAny_take (i := 4) (fuel := 2) (oi := { dst := some 46, op := Op.build 152 #[(0, Operand.tmp 43), (3, Operand.tmp 44), (4, Operand.tmp 45)], type := 152, pos := "huff.go:49", after := #[{ on := 1, ground := Ground.data }, { on := 2, ground := Ground.data }, { on := 3, ground := Ground.data }], guard := none }) (v := .agg (hcells (.slice A1 L.length c1) (.slice none 0 0) (.slice none 0 0) cf ff)) rfl (by kernel_rfl) (by kernel_rfl) (by kernel_rfl) (fun c a w h => hQp c a _ _ w h) (Or.inl ⟨rfl, fun w => ?_⟩) ?_
    · have e1 := eBcbba4_43
      have e2 := eBcbba4_44
      have e3 := eBcbba4_45
      exact run_build73 _ _ rfl _ _ _ _ _ e1 e2 e3 w
    change wpAny _ _ ops8 Q 2 _ (Bcbba4.put (some 46) (.agg (hcells (.slice A1 L.length c1) (.slice none 0 0) (.slice none 0 0) cf ff))) w1
    have hsBcbba5 : (Bcbba4.put (some 46) (.agg (hcells (.slice A1 L.length c1) (.slice none 0 0) (.slice none 0 0) cf ff))).tmps.size = 51 := by rw [put_size, hsBcbba4]
    have hdBcbba5 : (Bcbba4.put (some 46) (.agg (hcells (.slice A1 L.length c1) (.slice none 0 0) (.slice none 0 0) cf ff))).defers = a.defers := hdBcbba4
    have eBcbba5_46 := ev_same Bcbba4 46 (.agg (hcells (.slice A1 L.length c1) (.slice none 0 0) (.slice none 0 0) cf ff)) (by rw [hsBcbba4]; decide)
    have eBcbba5_43 := (ev_ne Bcbba4 46 43 (.agg (hcells (.slice A1 L.length c1) (.slice none 0 0) (.slice none 0 0) cf ff)) (by decide)).trans eBcbba4_43
    have eBcbba5_45 := (ev_ne Bcbba4 46 45 (.agg (hcells (.slice A1 L.length c1) (.slice none 0 0) (.slice none 0 0) cf ff)) (by decide)).trans eBcbba4_45
    have eBcbba5_44 := (ev_ne Bcbba4 46 44 (.agg (hcells (.slice A1 L.length c1) (.slice none 0 0) (.slice none 0 0) cf ff)) (by decide)).trans eBcbba4_44
    have eBcbba5_42 := (ev_ne Bcbba4 46 42 (.agg (hcells (.slice A1 L.length c1) (.slice none 0 0) (.slice none 0 0) cf ff)) (by decide)).trans eBcbba4_42
    have eBcbba5_0 := (ev_ne Bcbba4 46 0 (.agg (hcells (.slice A1 L.length c1) (.slice none 0 0) (.slice none 0 0) cf ff)) (by decide)).trans eBcbba4_0
    have eBcbba5_6 := (ev_ne Bcbba4 46 6 (.agg (hcells (.slice A1 L.length c1) (.slice none 0 0) (.slice none 0 0) cf ff)) (by decide)).trans eBcbba4_6
    have eBcbba5_8 := (ev_ne Bcbba4 46 8 (.agg (hcells (.slice A1 L.length c1) (.slice none 0 0) (.slice none 0 0) cf ff)) (by decide)).trans eBcbba4_8
    generalize Bcbba4.put (some 46) (.agg (hcells (.slice A1 L.length c1) (.slice none 0 0) (.slice none 0 0) cf ff)) = Bcbba5 at hsBcbba5 hdBcbba5 eBcbba5_46 eBcbba5_43 eBcbba5_45 eBcbba5_44 eBcbba5_42 eBcbba5_0 eBcbba5_6 eBcbba5_8 ⊢
    clear eBcbba4_43 eBcbba4_45 eBcbba4_44 eBcbba4_42 eBcbba4_0 eBcbba4_6 eBcbba4_8 hsBcbba4 hdBcbba4
    refine wpAny_ready (rs := [5]) (fuel := 1) (by kernel_rfl) (by decide) ?_
    refine AllReady.cons (o := { dst := some 47, op := Op.box 152 (Operand.tmp 46), type := 98, pos := "huff.go:49", after := #[{ on := 4, ground := Ground.data }], guard := none }) rfl (fun K hK => ?_) AllReady.nil
    refine step_box rfl 152 _ rfl (hcells (.slice A1 L.length c1) (.slice none 0 0) (.slice none 0 0) cf ff) eBcbba5_46 ?_
    refine hK _ _ ?_
    clear hK K
    change wpAny _ _ ops8 Q 1 _ (Bcbba5.put (some 47) (PG w1.heap.size 0)) (w1.alloc (.cells (hcells (.slice A1 L.length c1) (.slice none 0 0) (.slice none 0 0) cf ff) 152))
    have hsBcbba6 : (Bcbba5.put (some 47) (PG w1.heap.size 0)).tmps.size = 51 := by rw [put_size, hsBcbba5]
    have hdBcbba6 : (Bcbba5.put (some 47) (PG w1.heap.size 0)).defers = a.defers := hdBcbba5
    have eBcbba6_47 := ev_same Bcbba5 47 (PG w1.heap.size 0) (by rw [hsBcbba5]; decide)
    have eBcbba6_46 := (ev_ne Bcbba5 47 46 (PG w1.heap.size 0) (by decide)).trans eBcbba5_46
    have eBcbba6_43 := (ev_ne Bcbba5 47 43 (PG w1.heap.size 0) (by decide)).trans eBcbba5_43
    have eBcbba6_45 := (ev_ne Bcbba5 47 45 (PG w1.heap.size 0) (by decide)).trans eBcbba5_45
    have eBcbba6_44 := (ev_ne Bcbba5 47 44 (PG w1.heap.size 0) (by decide)).trans eBcbba5_44
    have eBcbba6_42 := (ev_ne Bcbba5 47 42 (PG w1.heap.size 0) (by decide)).trans eBcbba5_42
    have eBcbba6_0 := (ev_ne Bcbba5 47 0 (PG w1.heap.size 0) (by decide)).trans eBcbba5_0
    have eBcbba6_6 := (ev_ne Bcbba5 47 6 (PG w1.heap.size 0) (by decide)).trans eBcbba5_6
    have eBcbba6_8 := (ev_ne Bcbba5 47 8 (PG w1.heap.size 0) (by decide)).trans eBcbba5_8
    generalize Bcbba5.put (some 47) (PG w1.heap.size 0) = Bcbba6 at hsBcbba6 hdBcbba6 eBcbba6_47 eBcbba6_46 eBcbba6_43 eBcbba6_45 eBcbba6_44 eBcbba6_42 eBcbba6_0 eBcbba6_6 eBcbba6_8 ⊢
    clear eBcbba5_46 eBcbba5_43 eBcbba5_45 eBcbba5_44 eBcbba5_42 eBcbba5_0 eBcbba5_6 eBcbba5_8 hsBcbba5 hdBcbba5
    refine wpAny_take (i := 6) (fuel := 0) (oi := { dst := some 9, op := Op.assign (Operand.tmp 47), type := 98, pos := "huff.go:49", after := #[{ on := 5, ground := Ground.data }, { on := 1, ground := Ground.chain }, { on := 0, ground := Ground.phase }, { on := 1, ground := Ground.phase }, { on := 2, ground := Ground.phase }, { on := 3, ground := Ground.phase }, { on := 4, ground := Ground.phase }, { on := 5, ground := Ground.phase }], guard := none }) (v := PG w1.heap.size 0) rfl (by kernel_rfl) (by kernel_rfl) (by kernel_rfl) (fun c a w h => hQp c a _ _ w h) (Or.inl ⟨rfl, fun w => ?_⟩) ?_
    · exact congrArg (fun v => Result.ok (Next.value v) w) eBcbba6_47
    change wpAny _ _ ops8 Q 0 _ (Bcbba6.put (some 9) (PG w1.heap.size 0)) (w1.alloc (.cells (hcells (.slice A1 L.length c1) (.slice none 0 0) (.slice none 0 0) cf ff) 152))
    have hsBcbba7 : (Bcbba6.put (some 9) (PG w1.heap.size 0)).tmps.size = 51 := by rw [put_size, hsBcbba6]
    have hdBcbba7 : (Bcbba6.put (some 9) (PG w1.heap.size 0)).defers = a.defers := hdBcbba6
    have eBcbba7_9 := ev_same Bcbba6 9 (PG w1.heap.size 0) (by rw [hsBcbba6]; decide)
    have eBcbba7_47 := (ev_ne Bcbba6 9 47 (PG w1.heap.size 0) (by decide)).trans eBcbba6_47
    have eBcbba7_46 := (ev_ne Bcbba6 9 46 (PG w1.heap.size 0) (by decide)).trans eBcbba6_46
    have eBcbba7_43 := (ev_ne Bcbba6 9 43 (PG w1.heap.size 0) (by decide)).trans eBcbba6_43
    have eBcbba7_45 := (ev_ne Bcbba6 9 45 (PG w1.heap.size 0) (by decide)).trans eBcbba6_45
    have eBcbba7_44 := (ev_ne Bcbba6 9 44 (PG w1.heap.size 0) (by decide)).trans eBcbba6_44
    have eBcbba7_42 := (ev_ne Bcbba6 9 42 (PG w1.heap.size 0) (by decide)).trans eBcbba6_42
    have eBcbba7_0 := (ev_ne Bcbba6 9 0 (PG w1.heap.size 0) (by decide)).trans eBcbba6_0
    have eBcbba7_6 := (ev_ne Bcbba6 9 6 (PG w1.heap.size 0) (by decide)).trans eBcbba6_6
    have eBcbba7_8 := (ev_ne Bcbba6 9 8 (PG w1.heap.size 0) (by decide)).trans eBcbba6_8
    generalize Bcbba6.put (some 9) (PG w1.heap.size 0) = Bcbba7 at hsBcbba7 hdBcbba7 eBcbba7_9 eBcbba7_47 eBcbba7_46 eBcbba7_43 eBcbba7_45 eBcbba7_44 eBcbba7_42 eBcbba7_0 eBcbba7_6 eBcbba7_8 ⊢
    clear eBcbba6_47 eBcbba6_46 eBcbba6_43 eBcbba6_45 eBcbba6_44 eBcbba6_42 eBcbba6_0 eBcbba6_6 eBcbba6_8 hsBcbba6 hdBcbba6
    refine wpAny_done (by kernel_rfl) ?_ _
    exact hq _ w1 A1 c1 hsBcbba7 hdBcbba7 eBcbba7_9 hov hgv
  refine AllReady.cons (o := { dst := some 45, op := Op.load 145 (Operand.tmp 8), type := 145, pos := "huff.go:49", after := #[], guard := none }) rfl (fun K hK => ?_) AllReady.nil
  refine step_load_g rfl 145 _ rfl q eBc1_8 _ (ia ff 17) _ hrq Tryz.underlying145 rfl (by rw [size116, ia_size]) ?_
  refine hK _ _ ?_
  clear hK K
  change wpAny _ _ ops8 Q 5 _ (Bc1.put (some 45) (.agg (ia ff 17))) w
  have hsBcc2 : (Bc1.put (some 45) (.agg (ia ff 17))).tmps.size = 51 := by rw [put_size, hsBc1]
  have hdBcc2 : (Bc1.put (some 45) (.agg (ia ff 17))).defers = a.defers := hdBc1
  have eBcc2_45 := ev_same Bc1 45 (.agg (ia ff 17)) (by rw [hsBc1]; decide)
  have eBcc2_42 := (ev_ne Bc1 45 42 (.agg (ia ff 17)) (by decide)).trans eBc1_42
  have eBcc2_0 := (ev_ne Bc1 45 0 (.agg (ia ff 17)) (by decide)).trans eBc1_0
  have eBcc2_6 := (ev_ne Bc1 45 6 (.agg (ia ff 17)) (by decide)).trans eBc1_6
  have eBcc2_8 := (ev_ne Bc1 45 8 (.agg (ia ff 17)) (by decide)).trans eBc1_8
  generalize Bc1.put (some 45) (.agg (ia ff 17)) = Bcc2 at hsBcc2 hdBcc2 eBcc2_45 eBcc2_42 eBcc2_0 eBcc2_6 eBcc2_8 ⊢
  clear eBc1_42 eBc1_0 eBc1_6 eBc1_8 hsBc1 hdBc1
  refine wpAny_ready (rs := [1, 2]) (fuel := 4) (by kernel_rfl) (by decide) ?_
  refine AllReady.cons (o := { dst := some 43, op := Op.call { callee := Callee.value (Operand.func 92), args := #[Operand.tmp 42], argTypes := #[64] }, type := 64, pos := "huff.go:49", after := #[{ on := 0, ground := Ground.data }], guard := none }) rfl (fun K hK => ?_) ?_
  · skip
    refine step_call1 rfl 92 _ (run_call32 _ _ _ _ rfl rfl eBcc2_42) ?_
    refine (cloneI_any A n c L w hr hA hn).mono ?_
    rintro e w1 ⟨v, rfl, hov, hgv⟩
    obtain ⟨A1, c1, rfl⟩ := hov.slice
    have rp1 := hrp.grown hgv (by simp)
    have rq1 := hrq.grown hgv (by simp)
    refine hK _ _ ?_
    clear hK K
    change wpAny _ _ ops8 Q 4 _ (Bcc2.put (some 43) (.slice A1 L.length c1)) w1
    have hsBcca3 : (Bcc2.put (some 43) (.slice A1 L.length c1)).tmps.size = 51 := by rw [put_size, hsBcc2]
    have hdBcca3 : (Bcc2.put (some 43) (.slice A1 L.length c1)).defers = a.defers := hdBcc2
    have eBcca3_43 := ev_same Bcc2 43 (.slice A1 L.length c1) (by rw [hsBcc2]; decide)
    have eBcca3_45 := (ev_ne Bcc2 43 45 (.slice A1 L.length c1) (by decide)).trans eBcc2_45
    have eBcca3_42 := (ev_ne Bcc2 43 42 (.slice A1 L.length c1) (by decide)).trans eBcc2_42
    have eBcca3_0 := (ev_ne Bcc2 43 0 (.slice A1 L.length c1) (by decide)).trans eBcc2_0
    have eBcca3_6 := (ev_ne Bcc2 43 6 (.slice A1 L.length c1) (by decide)).trans eBcc2_6
    have eBcca3_8 := (ev_ne Bcc2 43 8 (.slice A1 L.length c1) (by decide)).trans eBcc2_8
    generalize Bcc2.put (some 43) (.slice A1 L.length c1) = Bcca3 at hsBcca3 hdBcca3 eBcca3_43 eBcca3_45 eBcca3_42 eBcca3_0 eBcca3_6 eBcca3_8 ⊢
    clear eBcc2_45 eBcc2_42 eBcc2_0 eBcc2_6 eBcc2_8 hsBcc2 hdBcc2
    refine wpAny_ready (rs := [2]) (fuel := 3) (by kernel_rfl) (by decide) ?_
    refine AllReady.cons (o := { dst := some 44, op := Op.load 141 (Operand.tmp 6), type := 141, pos := "huff.go:49", after := #[], guard := none }) rfl (fun K hK => ?_) AllReady.nil
    refine step_load_g rfl 141 _ rfl p eBcca3_6 _ (ia cf 16) _ rp1 Tryz.underlying141 rfl (by rw [size114, ia_size]) ?_
    refine hK _ _ ?_
    clear hK K
    change wpAny _ _ ops8 Q 3 _ (Bcca3.put (some 44) (.agg (ia cf 16))) w1
    have hsBccaa4 : (Bcca3.put (some 44) (.agg (ia cf 16))).tmps.size = 51 := by rw [put_size, hsBcca3]
    have hdBccaa4 : (Bcca3.put (some 44) (.agg (ia cf 16))).defers = a.defers := hdBcca3
    have eBccaa4_44 := ev_same Bcca3 44 (.agg (ia cf 16)) (by rw [hsBcca3]; decide)
    have eBccaa4_43 := (ev_ne Bcca3 44 43 (.agg (ia cf 16)) (by decide)).trans eBcca3_43
    have eBccaa4_45 := (ev_ne Bcca3 44 45 (.agg (ia cf 16)) (by decide)).trans eBcca3_45
    have eBccaa4_42 := (ev_ne Bcca3 44 42 (.agg (ia cf 16)) (by decide)).trans eBcca3_42
    have eBccaa4_0 := (ev_ne Bcca3 44 0 (.agg (ia cf 16)) (by decide)).trans eBcca3_0
    have eBccaa4_6 := (ev_ne Bcca3 44 6 (.agg (ia cf 16)) (by decide)).trans eBcca3_6
    have eBccaa4_8 := (ev_ne Bcca3 44 8 (.agg (ia cf 16)) (by decide)).trans eBcca3_8
    generalize Bcca3.put (some 44) (.agg (ia cf 16)) = Bccaa4 at hsBccaa4 hdBccaa4 eBccaa4_44 eBccaa4_43 eBccaa4_45 eBccaa4_42 eBccaa4_0 eBccaa4_6 eBccaa4_8 ⊢
    clear eBcca3_43 eBcca3_45 eBcca3_42 eBcca3_0 eBcca3_6 eBcca3_8 hsBcca3 hdBcca3
    refine wpAny_take (i := 4) (fuel := 2) (oi := { dst := some 46, op := Op.build 152 #[(0, Operand.tmp 43), (3, Operand.tmp 44), (4, Operand.tmp 45)], type := 152, pos := "huff.go:49", after := #[{ on := 1, ground := Ground.data }, { on := 2, ground := Ground.data }, { on := 3, ground := Ground.data }], guard := none }) (v := .agg (hcells (.slice A1 L.length c1) (.slice none 0 0) (.slice none 0 0) cf ff)) rfl (by kernel_rfl) (by kernel_rfl) (by kernel_rfl) (fun c a w h => hQp c a _ _ w h) (Or.inl ⟨rfl, fun w => ?_⟩) ?_
    · have e1 := eBccaa4_43
      have e2 := eBccaa4_44
      have e3 := eBccaa4_45
      exact run_build73 _ _ rfl _ _ _ _ _ e1 e2 e3 w
    change wpAny _ _ ops8 Q 2 _ (Bccaa4.put (some 46) (.agg (hcells (.slice A1 L.length c1) (.slice none 0 0) (.slice none 0 0) cf ff))) w1
    have hsBccaa5 : (Bccaa4.put (some 46) (.agg (hcells (.slice A1 L.length c1) (.slice none 0 0) (.slice none 0 0) cf ff))).tmps.size = 51 := by rw [put_size, hsBccaa4]
    have hdBccaa5 : (Bccaa4.put (some 46) (.agg (hcells (.slice A1 L.length c1) (.slice none 0 0) (.slice none 0 0) cf ff))).defers = a.defers := hdBccaa4
    have eBccaa5_46 := ev_same Bccaa4 46 (.agg (hcells (.slice A1 L.length c1) (.slice none 0 0) (.slice none 0 0) cf ff)) (by rw [hsBccaa4]; decide)
    have eBccaa5_44 := (ev_ne Bccaa4 46 44 (.agg (hcells (.slice A1 L.length c1) (.slice none 0 0) (.slice none 0 0) cf ff)) (by decide)).trans eBccaa4_44
    have eBccaa5_43 := (ev_ne Bccaa4 46 43 (.agg (hcells (.slice A1 L.length c1) (.slice none 0 0) (.slice none 0 0) cf ff)) (by decide)).trans eBccaa4_43
    have eBccaa5_45 := (ev_ne Bccaa4 46 45 (.agg (hcells (.slice A1 L.length c1) (.slice none 0 0) (.slice none 0 0) cf ff)) (by decide)).trans eBccaa4_45
    have eBccaa5_42 := (ev_ne Bccaa4 46 42 (.agg (hcells (.slice A1 L.length c1) (.slice none 0 0) (.slice none 0 0) cf ff)) (by decide)).trans eBccaa4_42
    have eBccaa5_0 := (ev_ne Bccaa4 46 0 (.agg (hcells (.slice A1 L.length c1) (.slice none 0 0) (.slice none 0 0) cf ff)) (by decide)).trans eBccaa4_0
    have eBccaa5_6 := (ev_ne Bccaa4 46 6 (.agg (hcells (.slice A1 L.length c1) (.slice none 0 0) (.slice none 0 0) cf ff)) (by decide)).trans eBccaa4_6
    have eBccaa5_8 := (ev_ne Bccaa4 46 8 (.agg (hcells (.slice A1 L.length c1) (.slice none 0 0) (.slice none 0 0) cf ff)) (by decide)).trans eBccaa4_8
    generalize Bccaa4.put (some 46) (.agg (hcells (.slice A1 L.length c1) (.slice none 0 0) (.slice none 0 0) cf ff)) = Bccaa5 at hsBccaa5 hdBccaa5 eBccaa5_46 eBccaa5_44 eBccaa5_43 eBccaa5_45 eBccaa5_42 eBccaa5_0 eBccaa5_6 eBccaa5_8 ⊢
    clear eBccaa4_44 eBccaa4_43 eBccaa4_45 eBccaa4_42 eBccaa4_0 eBccaa4_6 eBccaa4_8 hsBccaa4 hdBccaa4
    refine wpAny_ready (rs := [5]) (fuel := 1) (by kernel_rfl) (by decide) ?_
    refine AllReady.cons (o := { dst := some 47, op := Op.box 152 (Operand.tmp 46), type := 98, pos := "huff.go:49", after := #[{ on := 4, ground := Ground.data }], guard := none }) rfl (fun K hK => ?_) AllReady.nil
    refine step_box rfl 152 _ rfl (hcells (.slice A1 L.length c1) (.slice none 0 0) (.slice none 0 0) cf ff) eBccaa5_46 ?_
    refine hK _ _ ?_
    clear hK K
    change wpAny _ _ ops8 Q 1 _ (Bccaa5.put (some 47) (PG w1.heap.size 0)) (w1.alloc (.cells (hcells (.slice A1 L.length c1) (.slice none 0 0) (.slice none 0 0) cf ff) 152))
    have hsBccaa6 : (Bccaa5.put (some 47) (PG w1.heap.size 0)).tmps.size = 51 := by rw [put_size, hsBccaa5]
    have hdBccaa6 : (Bccaa5.put (some 47) (PG w1.heap.size 0)).defers = a.defers := hdBccaa5
    have eBccaa6_47 := ev_same Bccaa5 47 (PG w1.heap.size 0) (by rw [hsBccaa5]; decide)
    have eBccaa6_46 := (ev_ne Bccaa5 47 46 (PG w1.heap.size 0) (by decide)).trans eBccaa5_46
    have eBccaa6_44 := (ev_ne Bccaa5 47 44 (PG w1.heap.size 0) (by decide)).trans eBccaa5_44
    have eBccaa6_43 := (ev_ne Bccaa5 47 43 (PG w1.heap.size 0) (by decide)).trans eBccaa5_43
    have eBccaa6_45 := (ev_ne Bccaa5 47 45 (PG w1.heap.size 0) (by decide)).trans eBccaa5_45
    have eBccaa6_42 := (ev_ne Bccaa5 47 42 (PG w1.heap.size 0) (by decide)).trans eBccaa5_42
    have eBccaa6_0 := (ev_ne Bccaa5 47 0 (PG w1.heap.size 0) (by decide)).trans eBccaa5_0
    have eBccaa6_6 := (ev_ne Bccaa5 47 6 (PG w1.heap.size 0) (by decide)).trans eBccaa5_6
    have eBccaa6_8 := (ev_ne Bccaa5 47 8 (PG w1.heap.size 0) (by decide)).trans eBccaa5_8
    generalize Bccaa5.put (some 47) (PG w1.heap.size 0) = Bccaa6 at hsBccaa6 hdBccaa6 eBccaa6_47 eBccaa6_46 eBccaa6_44 eBccaa6_43 eBccaa6_45 eBccaa6_42 eBccaa6_0 eBccaa6_6 eBccaa6_8 ⊢
    clear eBccaa5_46 eBccaa5_44 eBccaa5_43 eBccaa5_45 eBccaa5_42 eBccaa5_0 eBccaa5_6 eBccaa5_8 hsBccaa5 hdBccaa5
    refine wpAny_take (i := 6) (fuel := 0) (oi := { dst := some 9, op := Op.assign (Operand.tmp 47), type := 98, pos := "huff.go:49", after := #[{ on := 5, ground := Ground.data }, { on := 1, ground := Ground.chain }, { on := 0, ground := Ground.phase }, { on := 1, ground := Ground.phase }, { on := 2, ground := Ground.phase }, { on := 3, ground := Ground.phase }, { on := 4, ground := Ground.phase }, { on := 5, ground := Ground.phase }], guard := none }) (v := PG w1.heap.size 0) rfl (by kernel_rfl) (by kernel_rfl) (by kernel_rfl) (fun c a w h => hQp c a _ _ w h) (Or.inl ⟨rfl, fun w => ?_⟩) ?_
    · exact congrArg (fun v => Result.ok (Next.value v) w) eBccaa6_47
    change wpAny _ _ ops8 Q 0 _ (Bccaa6.put (some 9) (PG w1.heap.size 0)) (w1.alloc (.cells (hcells (.slice A1 L.length c1) (.slice none 0 0) (.slice none 0 0) cf ff) 152))
    have hsBccaa7 : (Bccaa6.put (some 9) (PG w1.heap.size 0)).tmps.size = 51 := by rw [put_size, hsBccaa6]
    have hdBccaa7 : (Bccaa6.put (some 9) (PG w1.heap.size 0)).defers = a.defers := hdBccaa6
    have eBccaa7_9 := ev_same Bccaa6 9 (PG w1.heap.size 0) (by rw [hsBccaa6]; decide)
    have eBccaa7_47 := (ev_ne Bccaa6 9 47 (PG w1.heap.size 0) (by decide)).trans eBccaa6_47
    have eBccaa7_46 := (ev_ne Bccaa6 9 46 (PG w1.heap.size 0) (by decide)).trans eBccaa6_46
    have eBccaa7_44 := (ev_ne Bccaa6 9 44 (PG w1.heap.size 0) (by decide)).trans eBccaa6_44
    have eBccaa7_43 := (ev_ne Bccaa6 9 43 (PG w1.heap.size 0) (by decide)).trans eBccaa6_43
    have eBccaa7_45 := (ev_ne Bccaa6 9 45 (PG w1.heap.size 0) (by decide)).trans eBccaa6_45
    have eBccaa7_42 := (ev_ne Bccaa6 9 42 (PG w1.heap.size 0) (by decide)).trans eBccaa6_42
    have eBccaa7_0 := (ev_ne Bccaa6 9 0 (PG w1.heap.size 0) (by decide)).trans eBccaa6_0
    have eBccaa7_6 := (ev_ne Bccaa6 9 6 (PG w1.heap.size 0) (by decide)).trans eBccaa6_6
    have eBccaa7_8 := (ev_ne Bccaa6 9 8 (PG w1.heap.size 0) (by decide)).trans eBccaa6_8
    generalize Bccaa6.put (some 9) (PG w1.heap.size 0) = Bccaa7 at hsBccaa7 hdBccaa7 eBccaa7_9 eBccaa7_47 eBccaa7_46 eBccaa7_44 eBccaa7_43 eBccaa7_45 eBccaa7_42 eBccaa7_0 eBccaa7_6 eBccaa7_8 ⊢
    clear eBccaa6_47 eBccaa6_46 eBccaa6_44 eBccaa6_43 eBccaa6_45 eBccaa6_42 eBccaa6_0 eBccaa6_6 eBccaa6_8 hsBccaa6 hdBccaa6
    refine wpAny_done (by kernel_rfl) ?_ _
    exact hq _ w1 A1 c1 hsBccaa7 hdBccaa7 eBccaa7_9 hov hgv
  refine AllReady.cons (o := { dst := some 44, op := Op.load 141 (Operand.tmp 6), type := 141, pos := "huff.go:49", after := #[], guard := none }) rfl (fun K hK => ?_) AllReady.nil
  refine step_load_g rfl 141 _ rfl p eBcc2_6 _ (ia cf 16) _ hrp Tryz.underlying141 rfl (by rw [size114, ia_size]) ?_
  refine hK _ _ ?_
  clear hK K
  change wpAny _ _ ops8 Q 4 _ (Bcc2.put (some 44) (.agg (ia cf 16))) w
  have hsBccb3 : (Bcc2.put (some 44) (.agg (ia cf 16))).tmps.size = 51 := by rw [put_size, hsBcc2]
  have hdBccb3 : (Bcc2.put (some 44) (.agg (ia cf 16))).defers = a.defers := hdBcc2
  have eBccb3_44 := ev_same Bcc2 44 (.agg (ia cf 16)) (by rw [hsBcc2]; decide)
  have eBccb3_45 := (ev_ne Bcc2 44 45 (.agg (ia cf 16)) (by decide)).trans eBcc2_45
  have eBccb3_42 := (ev_ne Bcc2 44 42 (.agg (ia cf 16)) (by decide)).trans eBcc2_42
  have eBccb3_0 := (ev_ne Bcc2 44 0 (.agg (ia cf 16)) (by decide)).trans eBcc2_0
  have eBccb3_6 := (ev_ne Bcc2 44 6 (.agg (ia cf 16)) (by decide)).trans eBcc2_6
  have eBccb3_8 := (ev_ne Bcc2 44 8 (.agg (ia cf 16)) (by decide)).trans eBcc2_8
  generalize Bcc2.put (some 44) (.agg (ia cf 16)) = Bccb3 at hsBccb3 hdBccb3 eBccb3_44 eBccb3_45 eBccb3_42 eBccb3_0 eBccb3_6 eBccb3_8 ⊢
  clear eBcc2_45 eBcc2_42 eBcc2_0 eBcc2_6 eBcc2_8 hsBcc2 hdBcc2
  refine wpAny_ready (rs := [1]) (fuel := 3) (by kernel_rfl) (by decide) ?_
  refine AllReady.cons (o := { dst := some 43, op := Op.call { callee := Callee.value (Operand.func 92), args := #[Operand.tmp 42], argTypes := #[64] }, type := 64, pos := "huff.go:49", after := #[{ on := 0, ground := Ground.data }], guard := none }) rfl (fun K hK => ?_) AllReady.nil
  refine step_call1 rfl 92 _ (run_call32 _ _ _ _ rfl rfl eBccb3_42) ?_
  refine (cloneI_any A n c L w hr hA hn).mono ?_
  rintro e w1 ⟨v, rfl, hov, hgv⟩
  obtain ⟨A1, c1, rfl⟩ := hov.slice
  have rp1 := hrp.grown hgv (by simp)
  have rq1 := hrq.grown hgv (by simp)
  refine hK _ _ ?_
  clear hK K
  change wpAny _ _ ops8 Q 3 _ (Bccb3.put (some 43) (.slice A1 L.length c1)) w1
  have hsBccba4 : (Bccb3.put (some 43) (.slice A1 L.length c1)).tmps.size = 51 := by rw [put_size, hsBccb3]
  have hdBccba4 : (Bccb3.put (some 43) (.slice A1 L.length c1)).defers = a.defers := hdBccb3
  have eBccba4_43 := ev_same Bccb3 43 (.slice A1 L.length c1) (by rw [hsBccb3]; decide)
  have eBccba4_44 := (ev_ne Bccb3 43 44 (.slice A1 L.length c1) (by decide)).trans eBccb3_44
  have eBccba4_45 := (ev_ne Bccb3 43 45 (.slice A1 L.length c1) (by decide)).trans eBccb3_45
  have eBccba4_42 := (ev_ne Bccb3 43 42 (.slice A1 L.length c1) (by decide)).trans eBccb3_42
  have eBccba4_0 := (ev_ne Bccb3 43 0 (.slice A1 L.length c1) (by decide)).trans eBccb3_0
  have eBccba4_6 := (ev_ne Bccb3 43 6 (.slice A1 L.length c1) (by decide)).trans eBccb3_6
  have eBccba4_8 := (ev_ne Bccb3 43 8 (.slice A1 L.length c1) (by decide)).trans eBccb3_8
  generalize Bccb3.put (some 43) (.slice A1 L.length c1) = Bccba4 at hsBccba4 hdBccba4 eBccba4_43 eBccba4_44 eBccba4_45 eBccba4_42 eBccba4_0 eBccba4_6 eBccba4_8 ⊢
  clear eBccb3_44 eBccb3_45 eBccb3_42 eBccb3_0 eBccb3_6 eBccb3_8 hsBccb3 hdBccb3
  refine wpAny_take (i := 4) (fuel := 2) (oi := { dst := some 46, op := Op.build 152 #[(0, Operand.tmp 43), (3, Operand.tmp 44), (4, Operand.tmp 45)], type := 152, pos := "huff.go:49", after := #[{ on := 1, ground := Ground.data }, { on := 2, ground := Ground.data }, { on := 3, ground := Ground.data }], guard := none }) (v := .agg (hcells (.slice A1 L.length c1) (.slice none 0 0) (.slice none 0 0) cf ff)) rfl (by kernel_rfl) (by kernel_rfl) (by kernel_rfl) (fun c a w h => hQp c a _ _ w h) (Or.inl ⟨rfl, fun w => ?_⟩) ?_
  · have e1 := eBccba4_43
    have e2 := eBccba4_44
    have e3 := eBccba4_45
    exact run_build73 _ _ rfl _ _ _ _ _ e1 e2 e3 w
  change wpAny _ _ ops8 Q 2 _ (Bccba4.put (some 46) (.agg (hcells (.slice A1 L.length c1) (.slice none 0 0) (.slice none 0 0) cf ff))) w1
  have hsBccba5 : (Bccba4.put (some 46) (.agg (hcells (.slice A1 L.length c1) (.slice none 0 0) (.slice none 0 0) cf ff))).tmps.size = 51 := by rw [put_size, hsBccba4]
  have hdBccba5 : (Bccba4.put (some 46) (.agg (hcells (.slice A1 L.length c1) (.slice none 0 0) (.slice none 0 0) cf ff))).defers = a.defers := hdBccba4
  have eBccba5_46 := ev_same Bccba4 46 (.agg (hcells (.slice A1 L.length c1) (.slice none 0 0) (.slice none 0 0) cf ff)) (by rw [hsBccba4]; decide)
  have eBccba5_43 := (ev_ne Bccba4 46 43 (.agg (hcells (.slice A1 L.length c1) (.slice none 0 0) (.slice none 0 0) cf ff)) (by decide)).trans eBccba4_43
  have eBccba5_44 := (ev_ne Bccba4 46 44 (.agg (hcells (.slice A1 L.length c1) (.slice none 0 0) (.slice none 0 0) cf ff)) (by decide)).trans eBccba4_44
  have eBccba5_45 := (ev_ne Bccba4 46 45 (.agg (hcells (.slice A1 L.length c1) (.slice none 0 0) (.slice none 0 0) cf ff)) (by decide)).trans eBccba4_45
  have eBccba5_42 := (ev_ne Bccba4 46 42 (.agg (hcells (.slice A1 L.length c1) (.slice none 0 0) (.slice none 0 0) cf ff)) (by decide)).trans eBccba4_42
  have eBccba5_0 := (ev_ne Bccba4 46 0 (.agg (hcells (.slice A1 L.length c1) (.slice none 0 0) (.slice none 0 0) cf ff)) (by decide)).trans eBccba4_0
  have eBccba5_6 := (ev_ne Bccba4 46 6 (.agg (hcells (.slice A1 L.length c1) (.slice none 0 0) (.slice none 0 0) cf ff)) (by decide)).trans eBccba4_6
  have eBccba5_8 := (ev_ne Bccba4 46 8 (.agg (hcells (.slice A1 L.length c1) (.slice none 0 0) (.slice none 0 0) cf ff)) (by decide)).trans eBccba4_8
  generalize Bccba4.put (some 46) (.agg (hcells (.slice A1 L.length c1) (.slice none 0 0) (.slice none 0 0) cf ff)) = Bccba5 at hsBccba5 hdBccba5 eBccba5_46 eBccba5_43 eBccba5_44 eBccba5_45 eBccba5_42 eBccba5_0 eBccba5_6 eBccba5_8 ⊢
  clear eBccba4_43 eBccba4_44 eBccba4_45 eBccba4_42 eBccba4_0 eBccba4_6 eBccba4_8 hsBccba4 hdBccba4
  refine wpAny_ready (rs := [5]) (fuel := 1) (by kernel_rfl) (by decide) ?_
  refine AllReady.cons (o := { dst := some 47, op := Op.box 152 (Operand.tmp 46), type := 98, pos := "huff.go:49", after := #[{ on := 4, ground := Ground.data }], guard := none }) rfl (fun K hK => ?_) AllReady.nil
  refine step_box rfl 152 _ rfl (hcells (.slice A1 L.length c1) (.slice none 0 0) (.slice none 0 0) cf ff) eBccba5_46 ?_
  refine hK _ _ ?_
  clear hK K
  change wpAny _ _ ops8 Q 1 _ (Bccba5.put (some 47) (PG w1.heap.size 0)) (w1.alloc (.cells (hcells (.slice A1 L.length c1) (.slice none 0 0) (.slice none 0 0) cf ff) 152))
  have hsBccba6 : (Bccba5.put (some 47) (PG w1.heap.size 0)).tmps.size = 51 := by rw [put_size, hsBccba5]
  have hdBccba6 : (Bccba5.put (some 47) (PG w1.heap.size 0)).defers = a.defers := hdBccba5
  have eBccba6_47 := ev_same Bccba5 47 (PG w1.heap.size 0) (by rw [hsBccba5]; decide)
  have eBccba6_46 := (ev_ne Bccba5 47 46 (PG w1.heap.size 0) (by decide)).trans eBccba5_46
  have eBccba6_43 := (ev_ne Bccba5 47 43 (PG w1.heap.size 0) (by decide)).trans eBccba5_43
  have eBccba6_44 := (ev_ne Bccba5 47 44 (PG w1.heap.size 0) (by decide)).trans eBccba5_44
  have eBccba6_45 := (ev_ne Bccba5 47 45 (PG w1.heap.size 0) (by decide)).trans eBccba5_45
  have eBccba6_42 := (ev_ne Bccba5 47 42 (PG w1.heap.size 0) (by decide)).trans eBccba5_42
  have eBccba6_0 := (ev_ne Bccba5 47 0 (PG w1.heap.size 0) (by decide)).trans eBccba5_0
  have eBccba6_6 := (ev_ne Bccba5 47 6 (PG w1.heap.size 0) (by decide)).trans eBccba5_6
  have eBccba6_8 := (ev_ne Bccba5 47 8 (PG w1.heap.size 0) (by decide)).trans eBccba5_8
  generalize Bccba5.put (some 47) (PG w1.heap.size 0) = Bccba6 at hsBccba6 hdBccba6 eBccba6_47 eBccba6_46 eBccba6_43 eBccba6_44 eBccba6_45 eBccba6_42 eBccba6_0 eBccba6_6 eBccba6_8 ⊢
  clear eBccba5_46 eBccba5_43 eBccba5_44 eBccba5_45 eBccba5_42 eBccba5_0 eBccba5_6 eBccba5_8 hsBccba5 hdBccba5
  refine wpAny_take (i := 6) (fuel := 0) (oi := { dst := some 9, op := Op.assign (Operand.tmp 47), type := 98, pos := "huff.go:49", after := #[{ on := 5, ground := Ground.data }, { on := 1, ground := Ground.chain }, { on := 0, ground := Ground.phase }, { on := 1, ground := Ground.phase }, { on := 2, ground := Ground.phase }, { on := 3, ground := Ground.phase }, { on := 4, ground := Ground.phase }, { on := 5, ground := Ground.phase }], guard := none }) (v := PG w1.heap.size 0) rfl (by kernel_rfl) (by kernel_rfl) (by kernel_rfl) (fun c a w h => hQp c a _ _ w h) (Or.inl ⟨rfl, fun w => ?_⟩) ?_
  · exact congrArg (fun v => Result.ok (Next.value v) w) eBccba6_47
  change wpAny _ _ ops8 Q 0 _ (Bccba6.put (some 9) (PG w1.heap.size 0)) (w1.alloc (.cells (hcells (.slice A1 L.length c1) (.slice none 0 0) (.slice none 0 0) cf ff) 152))
  have hsBccba7 : (Bccba6.put (some 9) (PG w1.heap.size 0)).tmps.size = 51 := by rw [put_size, hsBccba6]
  have hdBccba7 : (Bccba6.put (some 9) (PG w1.heap.size 0)).defers = a.defers := hdBccba6
  have eBccba7_9 := ev_same Bccba6 9 (PG w1.heap.size 0) (by rw [hsBccba6]; decide)
  have eBccba7_47 := (ev_ne Bccba6 9 47 (PG w1.heap.size 0) (by decide)).trans eBccba6_47
  have eBccba7_46 := (ev_ne Bccba6 9 46 (PG w1.heap.size 0) (by decide)).trans eBccba6_46
  have eBccba7_43 := (ev_ne Bccba6 9 43 (PG w1.heap.size 0) (by decide)).trans eBccba6_43
  have eBccba7_44 := (ev_ne Bccba6 9 44 (PG w1.heap.size 0) (by decide)).trans eBccba6_44
  have eBccba7_45 := (ev_ne Bccba6 9 45 (PG w1.heap.size 0) (by decide)).trans eBccba6_45
  have eBccba7_42 := (ev_ne Bccba6 9 42 (PG w1.heap.size 0) (by decide)).trans eBccba6_42
  have eBccba7_0 := (ev_ne Bccba6 9 0 (PG w1.heap.size 0) (by decide)).trans eBccba6_0
  have eBccba7_6 := (ev_ne Bccba6 9 6 (PG w1.heap.size 0) (by decide)).trans eBccba6_6
  have eBccba7_8 := (ev_ne Bccba6 9 8 (PG w1.heap.size 0) (by decide)).trans eBccba6_8
  generalize Bccba6.put (some 9) (PG w1.heap.size 0) = Bccba7 at hsBccba7 hdBccba7 eBccba7_9 eBccba7_47 eBccba7_46 eBccba7_43 eBccba7_44 eBccba7_45 eBccba7_42 eBccba7_0 eBccba7_6 eBccba7_8 ⊢
  clear eBccba6_47 eBccba6_46 eBccba6_43 eBccba6_44 eBccba6_45 eBccba6_42 eBccba6_0 eBccba6_6 eBccba6_8 hsBccba6 hdBccba6
  refine wpAny_done (by kernel_rfl) ?_ _
  exact hq _ w1 A1 c1 hsBccba7 hdBccba7 eBccba7_9 hov hgv
end Go.Proofs.YtpnnlhegncbfaaaGreatDoor
