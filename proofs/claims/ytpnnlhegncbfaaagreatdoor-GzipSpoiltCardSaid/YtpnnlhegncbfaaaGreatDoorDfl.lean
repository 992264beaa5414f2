
/- Contracts of packedBy, the closure in Deflate, Deflate. -/
import Derived.Test.YtpnnlhegncbfaaaGreatDoorGroupC
import Derived.Test.YtpnnlhegncbfaaaGreatDoorTkb
import Derived.Test.YtpnnlhegncbfaaaGreatDoorGroupN
namespace Go.Proofs.YtpnnlhegncbfaaaGreatDoor
set_option maxRecDepth 20000
open Go.RowKit

def tokT (l : List UInt8) : List UInt8 := textB (fixedM l)
/-- A text, packed by a mode. -/
def packT (l : List UInt8) (z : Int) : List UInt8 := if z = 0 then plainT l else if z = 1 then tokT l else if (plainT l).length < (tokT l).length then plainT l else tokT l

theorem fin2_block {N k : Nat} (w : World) (a : Value) (b : Bool) (h1 : k ≠ N) (h2 : k ≠ N + 1) : (fin2 N w a b).heap[k]? = w.heap[k]? := by
  unfold fin2
  rw [heap_setCell_other _ ⟨N + 1, 0, none⟩ k _ h2, heap_setCell_other _ ⟨N, 0, none⟩ k _ h1]
theorem fin2_size (N : Nat) (w : World) (a : Value) (b : Bool) : (fin2 N w a b).heap.size = w.heap.size := by simp [fin2, World.setCell]
set_option maxHeartbeats 4000000 in
set_option maxRecDepth 10000 in
theorem packedBy_any (A : Option Addr) (n c : Nat) (l : List UInt8) (z : Int) (w : World) (hr : Rd w w.heap.size A n (us l)) (hA : A = none → c = 0) (hn : n ≤ 30000) (hnc : n ≤ c) (hz : 0 ≤ z ∧ z ≤ 2) :
    Calls Tryz.prog 36 #[.slice A n c, .int .i64 z] w fun e w' => ∃ v, e = .returned v ∧ Own w' w.heap.size v (packT l z) ∧ Below w.heap.size w w' := by
  have HP : ∀ w', Below w.heap.size w w' → RowKit.Hid (Calls Tryz.prog 46 #[.slice A n c] w' fun e w'' => ∃ v, e = .returned v ∧ Own w'' w'.heap.size v (plainT l) ∧ Below w'.heap.size w' w'') := fun w' hb => Lib.hid (plainBlocks_any A n c l w' (hr.next hb) hA (by omega) hnc)
  have HT : ∀ w', Below w.heap.size w w' → RowKit.Hid (Calls Tryz.prog 47 #[.slice A n c] w' fun e w'' => ∃ v, e = .returned v ∧ Own w'' w'.heap.size v (tokT l) ∧ Below w'.heap.size w' w'') := fun w' hb => Lib.hid (tokenBlock_any A n c l w' (hr.next hb) (by omega))
  clear hr hA hn hnc
  by_cases h0 : z = 0
  · subst h0
    rw [show packT l 0 = plainT l from if_pos rfl]
    go_enter Tryz.func36, Tryz.ntmps36
    go_wp2_with fail
    refine (HP w (Below.refl _ _)).out.mono ?_
    rintro e w1 ⟨v, rfl, ho, hb⟩
    have HF := Lib.hid (And.intro ho hb)
    clear ho hb HP HT
    go_wp2_with fail
    go_ret
    exact ⟨_, rfl, HF.out⟩
  · by_cases h1 : z = 1
    · subst h1
      rw [show packT l 1 = tokT l from rfl]
      clear h0 hz
      go_enter Tryz.func36, Tryz.ntmps36
      go_wp2_with fail
      refine (HT w (Below.refl _ _)).out.mono ?_
      rintro e w1 ⟨v, rfl, ho, hb⟩
      have HF := Lib.hid (And.intro ho hb)
      clear ho hb HP HT
      go_wp2_with fail
      go_ret
      exact ⟨_, rfl, HF.out⟩
    · have h2 : z = 2 := by omega
      subst h2
      rw [show packT l 2 = if (plainT l).length < (tokT l).length then plainT l else tokT l from rfl]
      clear h0 h1 hz
      generalize plainT l = P at HP ⊢
      generalize tokT l = T at HT ⊢
      obtain ⟨X, HX⟩ : ∃ X, RowKit.Hid ((if P.length < T.length then P else T) = X) := ⟨_, Lib.hid rfl⟩
      rw [HX.out]
      go_enter Tryz.func36, Tryz.ntmps36
      go_wp2_with fail
      refine (HP w (Below.refl _ _)).out.mono ?_
      rintro e w1 ⟨v, rfl, ho, hb⟩
      have HO1 := Lib.hid ho
      have HB1 := Lib.hid hb
      clear ho hb
      go_wp2_with fail
      refine (HT w1 HB1.out).out.mono ?_
      rintro e w2 ⟨u, rfl, ho, hb⟩
      have HO2 : RowKit.Hid (Own w2 w.heap.size u T) := Lib.hid (own_mono ho HB1.out.size)
      have HP2 : RowKit.Hid (Own w2 w.heap.size v P) := Lib.hid (HO1.out.blocks (fun k hk => hb.block k (World.ownsRow.lt HO1.out k hk).2))
      have HB2 : RowKit.Hid (Below w.heap.size w w2) := Lib.hid (HB1.out.trans (hb.mono HB1.out.size))
      clear ho hb HP HT HO1 HB1
      obtain ⟨Av, cv, rfl⟩ := HP2.out.slice
      obtain ⟨Au, cu, rfl⟩ := HO2.out.slice
      generalize hp : P.length = p at HP2 ⊢
      generalize ht : T.length = t at HO2 ⊢
      have HPT := Lib.hid (And.intro hp ht)
      clear hp ht
      by_cases hlt : p < t
      · have d1 : decide ((p : Int) < (t : Int)) = true := decide_eq_true (by omega)
        have HX2 : RowKit.Hid (P = X) := Lib.hid (by rw [← HX.out, if_pos (by rw [HPT.out.1, HPT.out.2]; exact hlt)])
        go_wp2_with fail
        go_ret
        exact ⟨_, rfl, HX2.out ▸ HP2.out, HB2.out⟩
      · have d1 : decide ((p : Int) < (t : Int)) = false := decide_eq_false (by omega)
        have HX2 : RowKit.Hid (T = X) := Lib.hid (by rw [← HX.out, if_neg (by rw [HPT.out.1, HPT.out.2]; exact hlt)])
        go_wp2_with fail
        go_ret
        exact ⟨_, rfl, HX2.out ▸ HO2.out, HB2.out⟩

set_option maxHeartbeats 4000000 in
theorem closure_any (A : Option Addr) (n c : Nat) (l : List UInt8) (z : Int) (w : World) (g0 g1 g2 : Nat) (hr : Rd w w.heap.size A n (us l)) (hA : A = none → c = 0) (hn : n ≤ 30000) (hnc : n ≤ c) (hz : 0 ≤ z ∧ z ≤ 2)
    (h0 : Row w g0 #[.slice A n c] 22) (h1 : Row w g1 #[.int .i64 z] 3) (h2 : Row w g2 #[.slice none 0 0] 22) :
    Calls Tryz.prog 35 #[.pointer (some ⟨g0, 0, none⟩), .pointer (some ⟨g1, 0, none⟩), .pointer (some ⟨g2, 0, none⟩)] w fun e w' => e = .returned (.tuple #[]) ∧ ∃ v, Row w' g2 #[v] 22 ∧ Own w' w.heap.size v (packT l z) ∧ w.grownBy w' (some g2) := by
  have HP := Lib.hid (packedBy_any A n c l z w hr hA hn hnc hz)
  have HR := Lib.hid h2
  have k0 : w.cell? ⟨g0, 0, none⟩ = some (.slice A n c) := h0.cell 0
  have k1 : w.cell? ⟨g1, 0, none⟩ = some (.int .i64 z) := h1.cell 0
  clear hr hA hn hnc hz h0 h1 h2
  go_enter Tryz.func35, Tryz.ntmps35
  go_wp2_with fail
  refine HP.out.mono ?_
  rintro e w1 ⟨v, rfl, ho, hb⟩
  have hr1 := HR.out.below hb HR.out.lt
  have k2 : w1.cell? ⟨g2, 0, none⟩ = some (.slice none 0 0) := hr1.cell 0
  have f2 := hr1.thawed 0
  have HF : RowKit.Hid (Row (w1.setCell ⟨g2, 0, none⟩ v) g2 #[v] 22 ∧ Own (w1.setCell ⟨g2, 0, none⟩ v) w.heap.size v (packT l z) ∧ w.grownBy (w1.setCell ⟨g2, 0, none⟩ v) (some g2)) := Lib.hid
    ⟨hr1.set 0 v, ho.blocks (fun k hk => heap_setCell_other _ ⟨g2, 0, none⟩ k _ (by show k ≠ g2; have := (World.ownsRow.lt ho k hk).1; have := HR.out.lt; omega)), by
      have hg := grown_setCell w1 g2 0 v
      have hb2 := grown_of_below hb
      exact ⟨hg.os.trans hb2.os, hg.tape.trans hb2.tape, hg.output.trans hb2.output, Nat.le_trans hb2.size hg.size, fun k hk hk2 => (hg.block k (Nat.lt_of_lt_of_le hk hb2.size) hk2).trans (hb2.block k hk (by simp))⟩⟩
  obtain ⟨Av, cv, hv⟩ := ho.slice
  clear ho hb hr1 HP
  generalize (packT l z).length = p at hv
  subst hv
  go_wp2_with fail
  go_end0
  exact ⟨rfl, _, HF.out⟩

set_option maxHeartbeats 1000000 in
theorem deflate_range (A : Option Addr) (n c : Nat) (z : Int) (w : World) (hz : z < 0 ∨ 2 < z) :
    Calls Tryz.prog 20 #[.slice A n c, .int .i64 z] w fun e w' => e = .returned (.tuple #[.slice none 0 0, errV 1]) ∧ Below w.heap.size w w' := by
  have HB : RowKit.Hid (Below w.heap.size w ((w.alloc (.cells #[.slice A n c] 22)).alloc (.cells #[.int .i64 z] 3))) := Lib.hid (below_make ((World.grownBy_alloc w _ none).trans (World.grownBy_alloc _ _ none)))
  by_cases h0 : z < 0
  · have d0 : decide (z < 0) = true := decide_eq_true h0
    clear hz h0
    go_enter Tryz.func20, Tryz.ntmps20
    go_wp2_with fail
    go_ret2
    exact ⟨rfl, HB.out⟩
  · have d0 : decide (z < 0) = false := decide_eq_false h0
    have d1 : decide (2 < z) = true := decide_eq_true (by omega)
    clear hz h0
    go_enter Tryz.func20, Tryz.ntmps20
    go_wp2_with fail
    go_ret2
    exact ⟨rfl, HB.out⟩

set_option maxHeartbeats 4000000 in
set_option maxRecDepth 10000 in
theorem deflate_any (A : Option Addr) (n c : Nat) (l : List UInt8) (z : Int) (w : World) (hr : Rd w w.heap.size A n (us l)) (hA : A = none → c = 0) (hn : n ≤ 30000) (hnc : n ≤ c) (hz : 0 ≤ z ∧ z ≤ 2) :
    Calls Tryz.prog 20 #[.slice A n c, .int .i64 z] w fun e w' => ∃ v, e = .returned (.tuple #[v, .nilIface]) ∧ Own w' w.heap.size v (packT l z) ∧ Below w.heap.size w w' := by
  have d0 : decide (z < 0) = false := decide_eq_false (by omega)
  have d1 : decide (2 < z) = false := decide_eq_false (by omega)
  have d2 : decide (1048576 < (n : Int)) = false := decide_eq_false (by omega)
  have ha1 := World.grownBy_alloc w (.cells #[.slice A n c] 22) none
  have ha2 := ha1.trans (World.grownBy_alloc (w.alloc (.cells #[.slice A n c] 22)) (.cells #[.int .i64 z] 3) none)
  have ha3 := ha2.trans (World.grownBy_alloc ((w.alloc (.cells #[.slice A n c] 22)).alloc (.cells #[.int .i64 z] 3)) (.cells #[.slice none 0 0] 22) none)
  have hR0 : Row (((w.alloc (.cells #[.slice A n c] 22)).alloc (.cells #[.int .i64 z] 3)).alloc (.cells #[.slice none 0 0] 22)) w.heap.size #[.slice A n c] 22 :=
    ((show Row (w.alloc (.cells #[.slice A n c] 22)) w.heap.size #[.slice A n c] 22 from heap_alloc_new w _).grown (World.grownBy_alloc _ (.cells #[.int .i64 z] 3) none) (by simp)).grown (World.grownBy_alloc _ _ none) (by simp)
  have hR1 : Row (((w.alloc (.cells #[.slice A n c] 22)).alloc (.cells #[.int .i64 z] 3)).alloc (.cells #[.slice none 0 0] 22)) (w.heap.size + 1) #[.int .i64 z] 3 := by
    have h := heap_alloc_new (w.alloc (.cells #[.slice A n c] 22)) (.cells #[.int .i64 z] 3)
    rw [show (w.alloc (.cells #[.slice A n c] 22)).heap.size = w.heap.size + 1 by simp] at h
    exact Row.grown h (World.grownBy_alloc _ _ none) (by simp)
  have hR2 : Row (((w.alloc (.cells #[.slice A n c] 22)).alloc (.cells #[.int .i64 z] 3)).alloc (.cells #[.slice none 0 0] 22)) (w.heap.size + 2) #[.slice none 0 0] 22 := by
    have h := heap_alloc_new ((w.alloc (.cells #[.slice A n c] 22)).alloc (.cells #[.int .i64 z] 3)) (.cells #[.slice none 0 0] 22)
    rw [show ((w.alloc (.cells #[.slice A n c] 22)).alloc (.cells #[.int .i64 z] 3)).heap.size = w.heap.size + 2 by simp] at h
    exact h
  have HS3 : RowKit.Hid ((((w.alloc (.cells #[.slice A n c] 22)).alloc (.cells #[.int .i64 z] 3)).alloc (.cells #[.slice none 0 0] 22)).heap.size = w.heap.size + 3) := Lib.hid (by simp)
  have HG3 := Lib.hid ha3
  have HROW := Lib.hid (And.intro hR0 (And.intro hR1 hR2))
  have HR := Lib.hid hr
  have HN := Lib.hid (And.intro hA (And.intro hn (And.intro hnc hz)))
  clear ha1 ha2 ha3 hR0 hR1 hR2 hr hA hn hnc hz
  go_enter Tryz.func20, Tryz.ntmps20
  go_wp2_with fail
  rw [show w.heap.size + 1 + 1 = w.heap.size + 2 from rfl]
  generalize ((w.alloc (.cells #[.slice A n c] 22)).alloc (.cells #[.int .i64 z] 3)).alloc (.cells #[.slice none 0 0] 22) = w3 at HS3 HG3 HROW ⊢
  have hb3 := below_make HG3.out
  have ha4 := World.grownBy_alloc w3 (.cells #[.pointer none] 75) none
  have ha5 := ha4.trans (World.grownBy_alloc (w3.alloc (.cells #[.pointer none] 75)) (.cells #[.bool false] 4) none)
  have hS5 : ((w3.alloc (.cells #[.pointer none] 75)).alloc (.cells #[.bool false] 4)).heap.size = w.heap.size + 5 := by simp [HS3.out]
  have hR3 : Row ((w3.alloc (.cells #[.pointer none] 75)).alloc (.cells #[.bool false] 4)) (w.heap.size + 3) #[.pointer none] 75 := by
    have h : Row (w3.alloc (.cells #[.pointer none] 75)) w3.heap.size #[.pointer none] 75 := heap_alloc_new w3 _
    rw [HS3.out] at h
    exact h.grown (World.grownBy_alloc _ _ none) (by simp)
  have hR4 : Row ((w3.alloc (.cells #[.pointer none] 75)).alloc (.cells #[.bool false] 4)) (w.heap.size + 4) #[.bool false] 4 := by
    have h : Row ((w3.alloc (.cells #[.pointer none] 75)).alloc (.cells #[.bool false] 4)) (w3.alloc (.cells #[.pointer none] 75)).heap.size #[.bool false] 4 := heap_alloc_new _ _
    rw [show (w3.alloc (.cells #[.pointer none] 75)).heap.size = w.heap.size + 4 by simp [HS3.out]] at h
    exact h
  have HS5 := Lib.hid hS5
  have HB5 := Lib.hid (hb3.trans ((below_make ha5).mono hb3.size))
  have HR5 := Lib.hid (And.intro hR3 hR4)
  have HC := Lib.hid (closure_any A n c l z ((w3.alloc (.cells #[.pointer none] 75)).alloc (.cells #[.bool false] 4)) w.heap.size (w.heap.size + 1) (w.heap.size + 2)
    (HR.out.next HB5.out) HN.out.1 HN.out.2.1 HN.out.2.2.1 HN.out.2.2.2
    (HROW.out.1.grown ha5 (by simp)) (HROW.out.2.1.grown ha5 (by simp)) (HROW.out.2.2.grown ha5 (by simp)))
  clear ha4 ha5 hS5 hR3 hR4 hb3
  refine try_cps 35 #[] #[.pointer (some ⟨w.heap.size, 0, none⟩), .pointer (some ⟨w.heap.size + 1, 0, none⟩), .pointer (some ⟨w.heap.size + 2, 0, none⟩)] w3 _ _ (fun _ _ => rfl) HC.out ?_
  rintro e w6 ⟨rfl, v, hr6, ho6, hg6⟩
  clear HC
  rw [HS3.out]
  rw [HS5.out] at ho6
  have hT3 := HR5.out.1.grown hg6 (by simp)
  have hT4 := HR5.out.2.grown hg6 (by simp)
  have hTwo : Two (w.heap.size + 3) w6 := ⟨⟨_, hT3.cell 0⟩, hT3.thawed 0, ⟨_, hT4.cell 0⟩, hT4.thawed 0⟩
  refine ⟨hTwo, .inl ⟨_, rfl, ?_⟩⟩
  have hb6 : Below w.heap.size w w6 := HB5.out.grown hg6 HB5.out.size (fun k hk => by injection hk with hk; omega)
  have hb7 : Below w.heap.size w (fin2 (w.heap.size + 3) w6 (.pointer none) false) :=
    ⟨hb6.os, hb6.tape, hb6.output, by rw [fin2_size]; exact hb6.size, fun k hk => by rw [fin2_block w6 _ _ (by omega) (by omega)]; exact hb6.block k hk⟩
  have ho7 : Own (fin2 (w.heap.size + 3) w6 (.pointer none) false) w.heap.size v (packT l z) :=
    own_mono (ho6.blocks (fun k hk => fin2_block w6 _ _ (by have := (World.ownsRow.lt ho6 k hk).1; omega) (by have := (World.ownsRow.lt ho6 k hk).1; omega))) (by omega)
  have hr7 : Row (fin2 (w.heap.size + 3) w6 (.pointer none) false) (w.heap.size + 2) #[v] 22 := by unfold Row; rw [fin2_block w6 _ _ (by omega) (by omega)]; exact hr6
  have k7 : (fin2 (w.heap.size + 3) w6 (.pointer none) false).cell? ⟨w.heap.size + 2, 0, none⟩ = some v := hr7.cell 0
  have HF := Lib.hid (And.intro ho7 hb7)
  obtain ⟨Av, cv, hv⟩ := ho7.slice
  clear hb6 hb7 ho7 hr7 hTwo hT3 hT4 hr6 ho6 hg6 HR5 HS5 HB5 HROW HR
  generalize fin2 (w.heap.size + 3) w6 (.pointer none) false = w7 at HF k7 ⊢
  generalize (packT l z).length = p at hv
  subst hv
  dsimp only
  go_wp2_with fail
  go_ret2
  exact ⟨_, rfl, HF.out⟩
end Go.Proofs.YtpnnlhegncbfaaaGreatDoor
