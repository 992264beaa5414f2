
/- Contracts of packedBy, the closure in Deflate, Deflate. -/

/- The sum of 32 bits as plain functions on UInt32: one shift, many shifts, the register behind bytes; the shift is linear and comes to nought of nought alone; four shifts by the table; what one turned bit does to the register. -/

/- Contracts of crc.shiftedByFour, crc.Add and crc.Of: the world stays as it is. -/
import Derived.Test.YtpnnlhegncbfaaaDoorGroupC
import Derived.Test.YtpnnlhegncbfaaaDoorGroupV
import Derived.Test.YtpnnlhegncbfaaaDoorGroupN
import Derived.Test.YtpnnlhegncbfaaaDoorGroupA
namespace Go.Proofs.YtpnnlhegncbfaaaDoor
set_option maxRecDepth 20000
open Go.RowKit

def tokT (l : List UInt8) : List UInt8 := textB (fixedM l)
/-- A text, packed by a mode. -/
def packT (l : List UInt8) (z : Int) : List UInt8 := if z = 0 then plainT l else if z = 1 then tokT l else if (plainT l).length < (tokT l).length then plainT l else tokT l

theorem fin2_block {N k : Nat} (w : World) (a : Value) (b : Bool) (h1 : k ≠ N) (h2 : k ≠ N + 1) : (fin2 N w a b).heap[k]? = w.heap[k]? := by
  unfold fin2
  rw [heap_setCell_other _ ⟨N + 1, 0, none⟩ k _ h2, heap_setCell_other _ ⟨N, 0, none⟩ k _ h1]
theorem fin2_size (N : Nat) (w : World) (a : Value) (b : Bool) : (fin2 N w a b).heap.size = w.heap.size := by simp [fin2, World.setCell]
set_option maxHeartbeats 4000000 in
set_option maxRecDepth 10000 in
theorem packedBy_any (A : Option Addr) (n c : Nat) (l : List UInt8) (z : Int) (w : World) (hr : Rd w w.heap.size A n (us l)) (hA : A = none → c = 0) (hn : n ≤ 30000) (hnc : n ≤ c) (hz : 0 ≤ z ∧ z ≤ 2) :
    Calls Tryd.prog 22 #[.slice A n c, .int .i64 z] w fun e w' => ∃ v, e = .returned v ∧ Own w' w.heap.size v (packT l z) ∧ Below w.heap.size w w' := by
  have HP : ∀ w', Below w.heap.size w w' → RowKit.Hid (Calls Tryd.prog 36 #[.slice A n c] w' fun e w'' => ∃ v, e = .returned v ∧ Own w'' w'.heap.size v (plainT l) ∧ Below w'.heap.size w' w'') := fun w' hb => Lib.hid (plainBlocks_any A n c l w' (hr.next hb) hA (by omega) hnc)
  have HT : ∀ w', Below w.heap.size w w' → RowKit.Hid (Calls Tryd.prog 37 #[.slice A n c] w' fun e w'' => ∃ v, e = .returned v ∧ Own w'' w'.heap.size v (tokT l) ∧ Below w'.heap.size w' w'') := fun w' hb => Lib.hid (tokenBlock_any A n c l w' (hr.next hb) (by omega))
  clear hr hA hn hnc
  by_cases h0 : z = 0
  · subst h0
    rw [show packT l 0 = plainT l from if_pos rfl]
    go_enter Tryd.func22, Tryd.ntmps22
    go_wp2_with fail
    refine (HP w (Below.refl _ _)).out.mono ?_
    rintro e w1 ⟨v, rfl, ho, hb⟩
    have HF := Lib.hid (And.intro ho hb)
    clear ho hb HP HT
    go_wp2_with fail
    go_ret
    exact ⟨_, rfl, HF.out⟩
  · by_cases h1 : z = 1
    · subst h1
      rw [show packT l 1 = tokT l from rfl]
      clear h0 hz
      go_enter Tryd.func22, Tryd.ntmps22
      go_wp2_with fail
      refine (HT w (Below.refl _ _)).out.mono ?_
      rintro e w1 ⟨v, rfl, ho, hb⟩
      have HF := Lib.hid (And.intro ho hb)
      clear ho hb HP HT
      go_wp2_with fail
      go_ret
      exact ⟨_, rfl, HF.out⟩
    · have h2 : z = 2 := by omega
      subst h2
      rw [show packT l 2 = if (plainT l).length < (tokT l).length then plainT l else tokT l from rfl]
      clear h0 h1 hz
      generalize plainT l = P at HP ⊢
      generalize tokT l = T at HT ⊢
      obtain ⟨X, HX⟩ : ∃ X, RowKit.Hid ((if P.length < T.length then P else T) = X) := ⟨_, Lib.hid rfl⟩
      rw [HX.out]
      go_enter Tryd.func22, Tryd.ntmps22
      go_wp2_with fail
      refine (HP w (Below.refl _ _)).out.mono ?_
      rintro e w1 ⟨v, rfl, ho, hb⟩
      have HO1 := Lib.hid ho
      have HB1 := Lib.hid hb
      clear ho hb
      go_wp2_with fail
      refine (HT w1 HB1.out).out.mono ?_
      rintro e w2 ⟨u, rfl, ho, hb⟩
      have HO2 : RowKit.Hid (Own w2 w.heap.size u T) := Lib.hid (own_mono ho HB1.out.size)
      have HP2 : RowKit.Hid (Own w2 w.heap.size v P) := Lib.hid (HO1.out.blocks (fun k hk => hb.block k (World.ownsRow.lt HO1.out k hk).2))
      have HB2 : RowKit.Hid (Below w.heap.size w w2) := Lib.hid (HB1.out.trans (hb.mono HB1.out.size))
      clear ho hb HP HT HO1 HB1
      obtain ⟨Av, cv, rfl⟩ := HP2.out.slice
      obtain ⟨Au, cu, rfl⟩ := HO2.out.slice
      generalize hp : P.length = p at HP2 ⊢
      generalize ht : T.length = t at HO2 ⊢
      have HPT := Lib.hid (And.intro hp ht)
      clear hp ht
      by_cases hlt : p < t
      · have d1 : decide ((p : Int) < (t : Int)) = true := decide_eq_true (by omega)
        have HX2 : RowKit.Hid (P = X) := Lib.hid (by rw [← HX.out, if_pos (by rw [HPT.out.1, HPT.out.2]; exact hlt)])
        go_wp2_with fail
        go_ret
        exact ⟨_, rfl, HX2.out ▸ HP2.out, HB2.out⟩
      · have d1 : decide ((p : Int) < (t : Int)) = false := decide_eq_false (by omega)
        have HX2 : RowKit.Hid (T = X) := Lib.hid (by rw [← HX.out, if_neg (by rw [HPT.out.1, HPT.out.2]; exact hlt)])
        go_wp2_with fail
        go_ret
        exact ⟨_, rfl, HX2.out ▸ HO2.out, HB2.out⟩

set_option maxHeartbeats 4000000 in
theorem closure_any (A : Option Addr) (n c : Nat) (l : List UInt8) (z : Int) (w : World) (g0 g1 g2 : Nat) (hr : Rd w w.heap.size A n (us l)) (hA : A = none → c = 0) (hn : n ≤ 30000) (hnc : n ≤ c) (hz : 0 ≤ z ∧ z ≤ 2)
    (h0 : Row w g0 #[.slice A n c] 22) (h1 : Row w g1 #[.int .i64 z] 3) (h2 : Row w g2 #[.slice none 0 0] 22) :
    Calls Tryd.prog 21 #[.pointer (some ⟨g0, 0, none⟩), .pointer (some ⟨g1, 0, none⟩), .pointer (some ⟨g2, 0, none⟩)] w fun e w' => e = .returned (.tuple #[]) ∧ ∃ v, Row w' g2 #[v] 22 ∧ Own w' w.heap.size v (packT l z) ∧ w.grownBy w' (some g2) := by
  have HP := Lib.hid (packedBy_any A n c l z w hr hA hn hnc hz)
  have HR := Lib.hid h2
  have k0 : w.cell? ⟨g0, 0, none⟩ = some (.slice A n c) := h0.cell 0
  have k1 : w.cell? ⟨g1, 0, none⟩ = some (.int .i64 z) := h1.cell 0
  clear hr hA hn hnc hz h0 h1 h2
  go_enter Tryd.func21, Tryd.ntmps21
  go_wp2_with fail
  refine HP.out.mono ?_
  rintro e w1 ⟨v, rfl, ho, hb⟩
  have hr1 := HR.out.below hb HR.out.lt
  have k2 : w1.cell? ⟨g2, 0, none⟩ = some (.slice none 0 0) := hr1.cell 0
  have f2 := hr1.thawed 0
  have HF : RowKit.Hid (Row (w1.setCell ⟨g2, 0, none⟩ v) g2 #[v] 22 ∧ Own (w1.setCell ⟨g2, 0, none⟩ v) w.heap.size v (packT l z) ∧ w.grownBy (w1.setCell ⟨g2, 0, none⟩ v) (some g2)) := Lib.hid
    ⟨hr1.set 0 v, ho.blocks (fun k hk => heap_setCell_other _ ⟨g2, 0, none⟩ k _ (by show k ≠ g2; have := (World.ownsRow.lt ho k hk).1; have := HR.out.lt; omega)), by
      have hg := grown_setCell w1 g2 0 v
      have hb2 := grown_of_below hb
      exact ⟨hg.os.trans hb2.os, hg.tape.trans hb2.tape, hg.output.trans hb2.output, Nat.le_trans hb2.size hg.size, fun k hk hk2 => (hg.block k (Nat.lt_of_lt_of_le hk hb2.size) hk2).trans (hb2.block k hk (by simp))⟩⟩
  obtain ⟨Av, cv, hv⟩ := ho.slice
  clear ho hb hr1 HP
  generalize (packT l z).length = p at hv
  subst hv
  go_wp2_with fail
  go_end0
  exact ⟨rfl, _, HF.out⟩

set_option maxHeartbeats 1000000 in
theorem deflate_range (A : Option Addr) (n c : Nat) (z : Int) (w : World) (hz : z < 0 ∨ 2 < z) :
    Calls Tryd.prog 9 #[.slice A n c, .int .i64 z] w fun e w' => e = .returned (.tuple #[.slice none 0 0, errV 1]) ∧ Below w.heap.size w w' := by
  have HB : RowKit.Hid (Below w.heap.size w ((w.alloc (.cells #[.slice A n c] 22)).alloc (.cells #[.int .i64 z] 3))) := Lib.hid (below_make ((World.grownBy_alloc w _ none).trans (World.grownBy_alloc _ _ none)))
  by_cases h0 : z < 0
  · have d0 : decide (z < 0) = true := decide_eq_true h0
    clear hz h0
    go_enter Tryd.func9, Tryd.ntmps9
    go_wp2_with fail
    go_ret2
    exact ⟨rfl, HB.out⟩
  · have d0 : decide (z < 0) = false := decide_eq_false h0
    have d1 : decide (2 < z) = true := decide_eq_true (by omega)
    clear hz h0
    go_enter Tryd.func9, Tryd.ntmps9
    go_wp2_with fail
    go_ret2
    exact ⟨rfl, HB.out⟩

set_option maxHeartbeats 4000000 in
set_option maxRecDepth 10000 in
theorem deflate_any (A : Option Addr) (n c : Nat) (l : List UInt8) (z : Int) (w : World) (hr : Rd w w.heap.size A n (us l)) (hA : A = none → c = 0) (hn : n ≤ 30000) (hnc : n ≤ c) (hz : 0 ≤ z ∧ z ≤ 2) :
    Calls Tryd.prog 9 #[.slice A n c, .int .i64 z] w fun e w' => ∃ v, e = .returned (.tuple #[v, .nilIface]) ∧ Own w' w.heap.size v (packT l z) ∧ Below w.heap.size w w' := by
  have d0 : decide (z < 0) = false := decide_eq_false (by omega)
  have d1 : decide (2 < z) = false := decide_eq_false (by omega)
  have d2 : decide (1048576 < (n : Int)) = false := decide_eq_false (by omega)
  have ha1 := World.grownBy_alloc w (.cells #[.slice A n c] 22) none
  have ha2 := ha1.trans (World.grownBy_alloc (w.alloc (.cells #[.slice A n c] 22)) (.cells #[.int .i64 z] 3) none)
  have ha3 := ha2.trans (World.grownBy_alloc ((w.alloc (.cells #[.slice A n c] 22)).alloc (.cells #[.int .i64 z] 3)) (.cells #[.slice none 0 0] 22) none)
  have hR0 : Row (((w.alloc (.cells #[.slice A n c] 22)).alloc (.cells #[.int .i64 z] 3)).alloc (.cells #[.slice none 0 0] 22)) w.heap.size #[.slice A n c] 22 :=
    ((show Row (w.alloc (.cells #[.slice A n c] 22)) w.heap.size #[.slice A n c] 22 from heap_alloc_new w _).grown (World.grownBy_alloc _ (.cells #[.int .i64 z] 3) none) (by simp)).grown (World.grownBy_alloc _ _ none) (by simp)
  have hR1 : Row (((w.alloc (.cells #[.slice A n c] 22)).alloc (.cells #[.int .i64 z] 3)).alloc (.cells #[.slice none 0 0] 22)) (w.heap.size + 1) #[.int .i64 z] 3 := by
    have h := heap_alloc_new (w.alloc (.cells #[.slice A n c] 22)) (.cells #[.int .i64 z] 3)
    rw [show (w.alloc (.cells #[.slice A n c] 22)).heap.size = w.heap.size + 1 by simp] at h
    exact Row.grown h (World.grownBy_alloc _ _ none) (by simp)
  have hR2 : Row (((w.alloc (.cells #[.slice A n c] 22)).alloc (.cells #[.int .i64 z] 3)).alloc (.cells #[.slice none 0 0] 22)) (w.heap.size + 2) #[.slice none 0 0] 22 := by
    have h := heap_alloc_new ((w.alloc (.cells #[.slice A n c] 22)).alloc (.cells #[.int .i64 z] 3)) (.cells #[.slice none 0 0] 22)
    rw [show ((w.alloc (.cells #[.slice A n c] 22)).alloc (.cells #[.int .i64 z] 3)).heap.size = w.heap.size + 2 by simp] at h
    exact h
  have HS3 : RowKit.Hid ((((w.alloc (.cells #[.slice A n c] 22)).alloc (.cells #[.int .i64 z] 3)).alloc (.cells #[.slice none 0 0] 22)).heap.size = w.heap.size + 3) := Lib.hid (by simp)
  have HG3 := Lib.hid ha3
  have HROW := Lib.hid (And.intro hR0 (And.intro hR1 hR2))
  have HR := Lib.hid hr
  have HN := Lib.hid (And.intro hA (And.intro hn (And.intro hnc hz)))
  clear ha1 ha2 ha3 hR0 hR1 hR2 hr hA hn hnc hz
  go_enter Tryd.func9, Tryd.ntmps9
  go_wp2_with fail
  rw [show w.heap.size + 1 + 1 = w.heap.size + 2 from rfl]
  generalize ((w.alloc (.cells #[.slice A n c] 22)).alloc (.cells #[.int .i64 z] 3)).alloc (.cells #[.slice none 0 0] 22) = w3 at HS3 HG3 HROW ⊢
  have hb3 := below_make HG3.out
  have ha4 := World.grownBy_alloc w3 (.cells #[.pointer none] 71) none
  have ha5 := ha4.trans (World.grownBy_alloc (w3.alloc (.cells #[.pointer none] 71)) (.cells #[.bool false] 4) none)
  have hS5 : ((w3.alloc (.cells #[.pointer none] 71)).alloc (.cells #[.bool false] 4)).heap.size = w.heap.size + 5 := by simp [HS3.out]
  have hR3 : Row ((w3.alloc (.cells #[.pointer none] 71)).alloc (.cells #[.bool false] 4)) (w.heap.size + 3) #[.pointer none] 71 := by
    have h : Row (w3.alloc (.cells #[.pointer none] 71)) w3.heap.size #[.pointer none] 71 := heap_alloc_new w3 _
    rw [HS3.out] at h
    exact h.grown (World.grownBy_alloc _ _ none) (by simp)
  have hR4 : Row ((w3.alloc (.cells #[.pointer none] 71)).alloc (.cells #[.bool false] 4)) (w.heap.size + 4) #[.bool false] 4 := by
    have h : Row ((w3.alloc (.cells #[.pointer none] 71)).alloc (.cells #[.bool false] 4)) (w3.alloc (.cells #[.pointer none] 71)).heap.size #[.bool false] 4 := heap_alloc_new _ _
    rw [show (w3.alloc (.cells #[.pointer none] 71)).heap.size = w.heap.size + 4 by simp [HS3.out]] at h
    exact h
  have HS5 := Lib.hid hS5
  have HB5 := Lib.hid (hb3.trans ((below_make ha5).mono hb3.size))
  have HR5 := Lib.hid (And.intro hR3 hR4)
  have HC := Lib.hid (closure_any A n c l z ((w3.alloc (.cells #[.pointer none] 71)).alloc (.cells #[.bool false] 4)) w.heap.size (w.heap.size + 1) (w.heap.size + 2)
    (HR.out.next HB5.out) HN.out.1 HN.out.2.1 HN.out.2.2.1 HN.out.2.2.2
    (HROW.out.1.grown ha5 (by simp)) (HROW.out.2.1.grown ha5 (by simp)) (HROW.out.2.2.grown ha5 (by simp)))
  clear ha4 ha5 hS5 hR3 hR4 hb3
  refine try_cps 21 #[] #[.pointer (some ⟨w.heap.size, 0, none⟩), .pointer (some ⟨w.heap.size + 1, 0, none⟩), .pointer (some ⟨w.heap.size + 2, 0, none⟩)] w3 _ _ (fun _ _ => rfl) HC.out ?_
  rintro e w6 ⟨rfl, v, hr6, ho6, hg6⟩
  clear HC
  rw [HS3.out]
  rw [HS5.out] at ho6
  have hT3 := HR5.out.1.grown hg6 (by simp)
  have hT4 := HR5.out.2.grown hg6 (by simp)
  have hTwo : Two (w.heap.size + 3) w6 := ⟨⟨_, hT3.cell 0⟩, hT3.thawed 0, ⟨_, hT4.cell 0⟩, hT4.thawed 0⟩
  refine ⟨hTwo, .inl ⟨_, rfl, ?_⟩⟩
  have hb6 : Below w.heap.size w w6 := HB5.out.grown hg6 HB5.out.size (fun k hk => by injection hk with hk; omega)
  have hb7 : Below w.heap.size w (fin2 (w.heap.size + 3) w6 (.pointer none) false) :=
    ⟨hb6.os, hb6.tape, hb6.output, by rw [fin2_size]; exact hb6.size, fun k hk => by rw [fin2_block w6 _ _ (by omega) (by omega)]; exact hb6.block k hk⟩
  have ho7 : Own (fin2 (w.heap.size + 3) w6 (.pointer none) false) w.heap.size v (packT l z) :=
    own_mono (ho6.blocks (fun k hk => fin2_block w6 _ _ (by have := (World.ownsRow.lt ho6 k hk).1; omega) (by have := (World.ownsRow.lt ho6 k hk).1; omega))) (by omega)
  have hr7 : Row (fin2 (w.heap.size + 3) w6 (.pointer none) false) (w.heap.size + 2) #[v] 22 := by unfold Row; rw [fin2_block w6 _ _ (by omega) (by omega)]; exact hr6
  have k7 : (fin2 (w.heap.size + 3) w6 (.pointer none) false).cell? ⟨w.heap.size + 2, 0, none⟩ = some v := hr7.cell 0
  have HF := Lib.hid (And.intro ho7 hb7)
  obtain ⟨Av, cv, hv⟩ := ho7.slice
  clear hb6 hb7 ho7 hr7 hTwo hT3 hT4 hr6 ho6 hg6 HR5 HS5 HB5 HROW HR
  generalize fin2 (w.heap.size + 3) w6 (.pointer none) false = w7 at HF k7 ⊢
  generalize (packT l z).length = p at hv
  subst hv
  dsimp only
  go_wp2_with fail
  go_ret2
  exact ⟨_, rfl, HF.out⟩
end Go.Proofs.YtpnnlhegncbfaaaDoor
namespace Go.Proofs.YtpnnlhegncbfaaaDoor
set_option maxRecDepth 20000

def upto {α : Type} (f : Nat → α → α) : Nat → α → α
  | 0, x => x
  | n + 1, x => f n (upto f n x)

def poly : UInt32 := 0xedb88320
/-- One shift. -/
def sh (x : UInt32) : UInt32 := (x >>> 1) ^^^ (if x.toBitVec.getLsbD 0 then poly else 0)
/-- So many shifts. -/
def sn : Nat → UInt32 → UInt32
  | 0, x => x
  | k + 1, x => sn k (sh x)

theorem sn_add (a b : Nat) (x : UInt32) : sn (a + b) x = sn b (sn a x) := by
  induction a generalizing x with
  | zero => rw [Nat.zero_add]; rfl
  | succ a ih => rw [Nat.succ_add]; exact ih (sh x)
theorem sn_succ (k : Nat) (x : UInt32) : sn (k + 1) x = sh (sn k x) := sn_add k 1 x

theorem shift_xor (x y : UInt32) : (x ^^^ y) >>> 1 = (x >>> 1) ^^^ (y >>> 1) := by
  apply UInt32.toBitVec_inj.1
  apply BitVec.eq_of_getLsbD_eq
  intro i hi
  simp
theorem sh_xor (x y : UInt32) : sh (x ^^^ y) = sh x ^^^ sh y := by
  unfold sh
  rw [shift_xor, UInt32.toBitVec_xor, BitVec.getLsbD_xor]
  generalize x >>> 1 = a
  generalize y >>> 1 = b
  cases x.toBitVec.getLsbD 0 <;> cases y.toBitVec.getLsbD 0 <;> simp
  · rw [UInt32.xor_assoc]
  · rw [UInt32.xor_assoc, UInt32.xor_assoc, UInt32.xor_comm b]
  · rw [UInt32.xor_assoc, ← UInt32.xor_assoc poly, UInt32.xor_comm poly, UInt32.xor_assoc b, UInt32.xor_self, UInt32.xor_zero]
theorem sn_xor (k : Nat) (x y : UInt32) : sn k (x ^^^ y) = sn k x ^^^ sn k y := by
  induction k generalizing x y with
  | zero => rfl
  | succ k ih => show sn k (sh (x ^^^ y)) = _; rw [sh_xor, ih]; rfl
theorem sh_zero : sh 0 = 0 := by decide
theorem sn_zero (k : Nat) : sn k 0 = 0 := by
  induction k with
  | zero => rfl
  | succ k ih => show sn k (sh 0) = 0; rw [sh_zero, ih]
theorem sh_none (x : UInt32) (h : sh x = 0) : x = 0 := by
  have h31 : (sh x).toBitVec.getLsbD 31 = x.toBitVec.getLsbD 0 := by
    unfold sh
    cases x.toBitVec.getLsbD 0 <;> simp [poly]
  rw [h] at h31
  have h0 : x.toBitVec.getLsbD 0 = false := by rw [← h31]; rfl
  unfold sh at h
  rw [h0] at h
  simp only [Bool.false_eq_true, if_false, UInt32.xor_zero] at h
  apply UInt32.toBitVec_inj.1
  apply BitVec.eq_of_getLsbD_eq
  intro i hi
  have hz : (0 : UInt32).toBitVec.getLsbD i = false := by simp
  rw [hz]
  match i, hi with
  | 0, _ => exact h0
  | j + 1, hj =>
    have : (x >>> 1).toBitVec.getLsbD j = false := by rw [h]; simp
    simpa [Nat.add_comm] using this
theorem sn_none (k : Nat) (x : UInt32) (h : sn k x = 0) : x = 0 := by
  induction k generalizing x with
  | zero => exact h
  | succ k ih => exact sh_none x (ih (sh x) h)

/-- The table. -/
def ctb : List UInt32 := [0x00000000, 0x1db71064, 0x3b6e20c8, 0x26d930ac, 0x76dc4190, 0x6b6b51f4, 0x4db26158, 0x5005713c, 0xedb88320, 0xf00f9344, 0xd6d6a3e8, 0xcb61b38c, 0x9b64c2b0, 0x86d3d2d4, 0xa00ae278, 0xbdbdf21c]
def nth (l : List UInt32) (i : Nat) : UInt32 := l.getD i 0
theorem tb_len : ctb.length = 16 := rfl
theorem tb_at : ∀ i : Fin 16, nth ctb i.val = sn 4 (UInt32.ofNat i.val) := by decide
def quarter (x : UInt32) : UInt32 := x >>> 4
def low4 (x : UInt32) : UInt32 := x &&& 15
/-- Four shifts by the table. -/
def nib (x : UInt32) : UInt32 := quarter x ^^^ nth ctb (low4 x).toNat

theorem low4_lt (x : UInt32) : (low4 x).toNat < 16 := by
  unfold low4
  rw [UInt32.toNat_and]
  exact Nat.lt_of_le_of_lt Nat.and_le_right (by decide)
theorem halves (x : UInt32) : x = (x &&& ~~~15) ^^^ low4 x := by
  apply UInt32.toBitVec_inj.1
  apply BitVec.eq_of_getLsbD_eq
  intro i hi
  simp only [low4, UInt32.toBitVec_xor, UInt32.toBitVec_and, UInt32.toBitVec_not, BitVec.getLsbD_xor, BitVec.getLsbD_and, BitVec.getLsbD_not]
  cases x.toBitVec.getLsbD i <;> cases ((15 : UInt32).toBitVec.getLsbD i) <;> simp [hi]
theorem high_four (x : UInt32) : sn 4 (x &&& ~~~15) = quarter x := by
  show sh (sh (sh (sh (x &&& ~~~15)))) = quarter x
  have b (k : Nat) (hk : k < 4) : (x &&& ~~~15).toBitVec.getLsbD k = false := by
    match k, hk with
    | 0, _ => simp
    | 1, _ => simp
    | 2, _ => simp
    | 3, _ => simp
  have e (y : UInt32) (h : y.toBitVec.getLsbD 0 = false) : sh y = y >>> 1 := by unfold sh; rw [h]; simp
  have s (y : UInt32) (k : Nat) : (y >>> 1).toBitVec.getLsbD k = y.toBitVec.getLsbD (k + 1) := by simp [Nat.add_comm]
  generalize hz : x &&& ~~~15 = z at b ⊢
  rw [e z (b 0 (by decide)), e (z >>> 1) (by rw [s]; exact b 1 (by decide)), e (z >>> 1 >>> 1) (by rw [s, s]; exact b 2 (by decide)), e (z >>> 1 >>> 1 >>> 1) (by rw [s, s, s]; exact b 3 (by decide)), ← hz]
  apply UInt32.toBitVec_inj.1
  apply BitVec.eq_of_getLsbD_eq
  intro i hi
  rw [s, s, s, s]
  unfold quarter
  have : (x >>> 4).toBitVec.getLsbD i = x.toBitVec.getLsbD (i + 4) := by simp [Nat.add_comm]
  rw [this]
  simp only [UInt32.toBitVec_and, UInt32.toBitVec_not, BitVec.getLsbD_and, BitVec.getLsbD_not]
  by_cases h : i + 4 < 32
  · have h15 : (15 : UInt32).toBitVec.getLsbD (i + 4) = false := by
      show Nat.testBit 15 (i + 4) = false
      exact Nat.testBit_lt_two_pow (by calc 15 < 2 ^ 4 := by decide
                                          _ ≤ 2 ^ (i + 4) := Nat.pow_le_pow_right (by decide) (by omega))
    rw [h15]; simp [h]
  · rw [BitVec.getLsbD_of_ge x.toBitVec _ (by omega)]; simp
theorem nib_eq (x : UInt32) : nib x = sn 4 x := by
  conv => rhs; rw [halves x]
  rw [sn_xor, high_four, nib, tb_at ⟨_, low4_lt x⟩]
  simp

/-- A byte as a number of 32 bits. -/
def b32 (x : UInt8) : UInt32 := UInt32.ofNat x.toNat
/-- The register behind one byte, and behind a text. -/
def byte (r : UInt32) (x : UInt8) : UInt32 := sn 8 (r ^^^ b32 x)
def reg (r : UInt32) (l : List UInt8) : UInt32 := l.foldl byte r
/-- Add. -/
def addP (s : UInt32) (l : List UInt8) : UInt32 := ~~~ (reg (~~~ s) l)

theorem byte_nib (r : UInt32) (x : UInt8) : nib (nib (r ^^^ b32 x)) = byte r x := by
  rw [nib_eq, nib_eq, ← sn_add]; rfl
theorem reg_more (r : UInt32) (l : List UInt8) (k : Nat) (x : UInt8) (h : l[k]? = some x) : reg r (l.take (k + 1)) = byte (reg r (l.take k)) x := by
  rw [List.take_add_one, h]
  simp [reg]
theorem reg_append (r : UInt32) (a b : List UInt8) : reg r (a ++ b) = reg (reg r a) b := by simp [reg]
theorem not_not (x : UInt32) : ~~~ (~~~ x) = x := UInt32.not_not
theorem addP_append (s : UInt32) (a b : List UInt8) : addP (addP s a) b = addP s (a ++ b) := by
  unfold addP
  rw [not_not, reg_append]
theorem addP_nil (s : UInt32) : addP s [] = s := not_not s
theorem turn_xor (x : UInt32) : x ^^^ 0xffffffff = ~~~ x := by
  apply UInt32.toBitVec_inj.1
  rw [UInt32.toBitVec_xor, UInt32.toBitVec_not]
  exact BitVec.xor_allOnes

theorem xor_right (a b c : UInt32) : (a ^^^ b) ^^^ c = (a ^^^ c) ^^^ b := by
  rw [UInt32.xor_assoc, UInt32.xor_comm b, ← UInt32.xor_assoc]
theorem reg_xor (r d : UInt32) (l : List UInt8) : reg (r ^^^ d) l = reg r l ^^^ sn (8 * l.length) d := by
  induction l generalizing r d with
  | nil => rfl
  | cons y ys ih =>
    show reg (byte (r ^^^ d) y) ys = reg (byte r y) ys ^^^ _
    have : byte (r ^^^ d) y = byte r y ^^^ sn 8 d := by unfold byte; rw [xor_right, sn_xor]
    rw [this, ih, ← sn_add]
    congr 2
    simp [Nat.mul_add, Nat.add_comm]
theorem b32_xor (x y : UInt8) : b32 (x ^^^ y) = b32 x ^^^ b32 y := by
  apply UInt32.toNat_inj.1
  have hx : x.toNat < 256 := x.toNat_lt
  have hy : y.toNat < 256 := y.toNat_lt
  have hz : (x ^^^ y).toNat < 256 := (x ^^^ y).toNat_lt
  simp only [b32, UInt32.toNat_xor, UInt32.toNat_ofNat', UInt8.toNat_xor] at hz ⊢
  rw [Nat.mod_eq_of_lt (by omega), Nat.mod_eq_of_lt (by omega), Nat.mod_eq_of_lt (by omega)]

/-- A byte with one bit set. -/
def cbit8 (s : Nat) : UInt8 := UInt8.ofNat (2 ^ s)
theorem bit8_sh : ∀ s : Fin 8, sn 8 (b32 (cbit8 s.val)) = sn (8 - s.val) 1 := by decide
/-- What one turned bit does to the register. -/
theorem reg_turn (r : UInt32) (l : List UInt8) (q s : Nat) (hq : q < l.length) (hs : s < 8) :
    reg r (l.set q (l.getD q 0 ^^^ cbit8 s)) = reg r l ^^^ sn (8 * (l.length - q - 1) + (8 - s)) 1 := by
  induction l generalizing r q with
  | nil => simp at hq
  | cons y ys ih =>
    match q, hq with
    | 0, _ =>
      show reg (byte r (y ^^^ cbit8 s)) ys = reg (byte r y) ys ^^^ _
      have : byte r (y ^^^ cbit8 s) = byte r y ^^^ sn (8 - s) 1 := by
        unfold byte
        rw [b32_xor, ← UInt32.xor_assoc, sn_xor, bit8_sh ⟨s, hs⟩]
      rw [this, reg_xor, ← sn_add]
      congr 2
      simp [Nat.add_comm]
    | q + 1, hq =>
      show reg (byte r y) (ys.set q (ys.getD q 0 ^^^ cbit8 s)) = reg (byte r y) ys ^^^ _
      rw [ih (byte r y) q (by simpa using hq)]
      congr 2
      simp

/-- One bit alone, and the low bits of a number, bit by bit. -/
def one (i : Nat) : UInt32 := UInt32.ofNat (2 ^ i)
def bitOf (t : UInt32) (i : Nat) : Bool := t.toNat / 2 ^ i % 2 == 1
def low (t : UInt32) : Nat → UInt32
  | 0 => 0
  | i + 1 => if bitOf t i then low t i ^^^ one i else low t i
theorem one_sh : ∀ j : Fin 31, sh (one (j.val + 1)) = one j.val := by decide
theorem sn_one (j m : Nat) (hj : j < 32) (hm : j ≤ m) : sn m (one j) = sn (m - j) 1 := by
  induction j generalizing m with
  | zero => rfl
  | succ j ih =>
    obtain ⟨m, rfl⟩ : ∃ k, m = k + 1 := ⟨m - 1, by omega⟩
    show sn m (sh (one (j + 1))) = _
    rw [one_sh ⟨j, by omega⟩, ih m (by omega) (by omega)]
    congr 1
    omega
theorem low_lt (t : UInt32) (i : Nat) (hi : i ≤ 32) : (low t i).toNat < 2 ^ i := by
  induction i with
  | zero => exact (by decide : (0 : UInt32).toNat < 1)
  | succ i ih =>
    have h1 : (low t i).toNat < 2 ^ (i + 1) := Nat.lt_of_lt_of_le (ih (by omega)) (Nat.pow_le_pow_right (by decide) (by omega))
    unfold low
    split
    · rw [UInt32.toNat_xor]
      refine Nat.xor_lt_two_pow h1 ?_
      unfold one
      rw [UInt32.toNat_ofNat', Nat.mod_eq_of_lt (Nat.pow_lt_pow_right (by decide) (by omega))]
      exact Nat.pow_lt_pow_right (by decide) (by omega)
    · exact h1
theorem low_some (t : UInt32) (i : Nat) (hi : i < 32) : low t i ^^^ one i ≠ 0 := by
  intro h
  have he : low t i = one i := by
    have := congrArg (· ^^^ one i) h
    simp only [UInt32.xor_assoc, UInt32.xor_self, UInt32.xor_zero, UInt32.zero_xor] at this
    exact this
  have := low_lt t i (by omega)
  rw [he, one, UInt32.toNat_ofNat', Nat.mod_eq_of_lt (Nat.pow_lt_pow_right (by decide) (by omega))] at this
  omega
/-- Whether a bit was turned so far. -/
def some' (t : UInt32) (i : Nat) : Bool := decide (low t i ≠ 0)
theorem some_zero (t : UInt32) : some' t 0 = false := rfl
theorem some_true (t : UInt32) (i : Nat) (hi : i < 32) (h : bitOf t i = true) : some' t (i + 1) = true := by
  unfold some' low
  rw [if_pos h]
  exact decide_eq_true (low_some t i hi)
theorem some_same (t : UInt32) (i : Nat) (h : bitOf t i = false) : some' t (i + 1) = some' t i := by
  unfold some'
  rw [low, if_neg (by simp [h])]

/-- What the turning of bits keeps: the length, and how far the register is from that of the text. -/
structure Turned (b : List UInt8) (first : Nat) (t : UInt32) (i : Nat) (x : List UInt8) : Prop where
  len : x.length = b.length
  far : ∀ r, reg r x = reg r b ^^^ sn (8 * b.length - first) (low t i)
theorem Turned.start (b : List UInt8) (first : Nat) (t : UInt32) : Turned b first t 0 b := ⟨rfl, fun r => by rw [low, sn_zero, UInt32.xor_zero]⟩
theorem Turned.stay {b : List UInt8} {first : Nat} {t : UInt32} {i : Nat} {x : List UInt8} (h : Turned b first t i x) (hb : bitOf t i = false) : Turned b first t (i + 1) x :=
  ⟨h.len, fun r => by rw [low, if_neg (by simp [hb])]; exact h.far r⟩
theorem Turned.turn {b : List UInt8} {first : Nat} {t : UInt32} {i : Nat} {x : List UInt8} (h : Turned b first t i x) (hb : bitOf t i = true) (hi : i < 32) (hp : first + i < 8 * b.length) :
    Turned b first t (i + 1) (x.set ((first + i) / 8) (x.getD ((first + i) / 8) 0 ^^^ cbit8 ((first + i) % 8))) := by
  refine ⟨by rw [List.length_set]; exact h.len, fun r => ?_⟩
  rw [reg_turn r x _ _ (by rw [h.len]; omega) (by omega), h.far r, h.len, low, if_pos hb, sn_xor, sn_one i _ hi (by omega), UInt32.xor_assoc]
  congr 3
  omega
/-- The two sums differ just where a bit was turned. -/
theorem Turned.tells {b : List UInt8} {first : Nat} {t : UInt32} {i : Nat} {x : List UInt8} (h : Turned b first t i x) (s : UInt32) : (addP s x != addP s b) = some' t i := by
  unfold some' addP
  rw [h.far]
  generalize hr : reg (~~~ s) b = r
  by_cases hl : low t i = 0
  · rw [hl, sn_zero, UInt32.xor_zero]; simp
  · have h1 : r ^^^ sn (8 * b.length - first) (low t i) ≠ r := by
      intro he
      apply hl
      apply sn_none (8 * b.length - first)
      have := congrArg (r ^^^ ·) he
      simp only [← UInt32.xor_assoc, UInt32.xor_self, UInt32.zero_xor] at this
      exact this
    have h2 : ~~~ (r ^^^ sn (8 * b.length - first) (low t i)) ≠ ~~~ r := fun he => h1 (by rw [← not_not (r ^^^ _), he, not_not])
    simp [hl, h2]
end Go.Proofs.YtpnnlhegncbfaaaDoor
namespace Go.Proofs.YtpnnlhegncbfaaaDoor
set_option maxRecDepth 20000
open Go.RowKit

abbrev U32 (x : UInt32) : Value := .int .u32 (x.toNat : Int)
theorem u32_lt (x : UInt32) : x.toNat < 4294967296 := x.toNat_lt
/-- Under names that simp leaves alone. -/
def x32 (x y : UInt32) : UInt32 := x ^^^ y
def n32 (x : UInt32) : UInt32 := ~~~ x
def half (x : UInt32) : UInt32 := x >>> 1
theorem rx32 (x y : UInt32) : bits .xor .u32 (x.toNat : Int) (y.toNat : Int) = ((x32 x y).toNat : Int) := by
  rw [u32_xor_nat _ _ (u32_lt x) (u32_lt y), x32, UInt32.toNat_xor]
theorem rn32 (x : UInt32) : bits .xor .u32 (if IntKind.u32.signed = true then -1 else IntKind.u32.max) (x.toNat : Int) = ((n32 x).toNat : Int) := by
  have h1 : (if IntKind.u32.signed = true then (-1 : Int) else IntKind.u32.max) = (((4294967295 : UInt32).toNat : Nat) : Int) := by decide
  rw [h1, rx32, x32, UInt32.xor_comm, turn_xor]
  rfl
theorem rl32 (x : UInt32) : bits .and .u32 (x.toNat : Int) 15 = ((low4 x).toNat : Int) := by
  have := u32_and_nat x.toNat 15 (u32_lt x) (by decide)
  rw [low4, UInt32.toNat_and]
  exact this
theorem rq32 (x : UInt32) : (x.toNat : Int) / 16 = ((quarter x).toNat : Int) := by
  rw [quarter, UInt32.toNat_shiftRight]
  show _ = ((x.toNat >>> 4 : Nat) : Int)
  rw [Nat.shiftRight_eq_div_pow]
  omega
theorem rb32 (x : UInt8) : (x.toNat : Int) % 4294967296 = ((b32 x).toNat : Int) := by
  have : x.toNat < 256 := x.toNat_lt
  rw [b32, UInt32.toNat_ofNat']; omega
theorem rb32' (x : UInt8) : (x.toNat : Int) = ((b32 x).toNat : Int) := by
  have : x.toNat < 256 := x.toNat_lt
  rw [b32, UInt32.toNat_ofNat']; omega

/-- The table stands as the text lays it. -/
structure Tabs (w : World) : Prop where
  k : ∀ i, i < 16 → w.cell? ⟨0, i, none⟩ = some (U32 (nth ctb i))
  size : 1 ≤ w.heap.size
theorem Tabs.below {w w' : World} {B : Nat} (h : Tabs w) (hb : Below B w w') (hB : 1 ≤ B) : Tabs w' :=
  ⟨fun i hi => (hb.cell (p := ⟨0, i, none⟩) (by show 0 < B; omega)).trans (h.k i hi), Nat.le_trans h.size hb.size⟩

set_option maxHeartbeats 400000 in
theorem four_any (x : UInt32) (w : World) (ht : Tabs w) : Calls Tryd.prog 61 #[U32 x] w fun e w' => e = .returned (U32 (nib x)) ∧ w' = w := by
  have hl := low4_lt x
  have hk := ht.k (low4 x).toNat hl
  have e1 := rl32 x
  have e2 := rq32 x
  have e3 := rx32 (quarter x) (nth ctb (low4 x).toNat)
  obtain ⟨y, HY⟩ : ∃ y, RowKit.Hid (nth ctb (low4 x).toNat = y) := ⟨_, Lib.hid rfl⟩
  rw [HY.out] at hk e3
  obtain ⟨i, HI⟩ : ∃ i, RowKit.Hid ((low4 x).toNat = i) := ⟨_, Lib.hid rfl⟩
  rw [HI.out] at hk e1 hl
  obtain ⟨q, HQ⟩ : ∃ q, RowKit.Hid (quarter x = q) := ⟨_, Lib.hid rfl⟩
  rw [HQ.out] at e2 e3
  have HT := Lib.hid ht
  clear ht
  go_enter Tryd.func61, Tryd.ntmps61
  go_wp2_with fail
  go_ret
  refine ⟨?_, rfl⟩
  rw [nib, HY.out, HQ.out]
  rfl

set_option maxHeartbeats 400000 in
theorem add_any (s : UInt32) (A : Option Addr) (n c : Nat) (l : List UInt8) (w : World) (hr : Rd w w.heap.size A n (us l)) (ht : Tabs w) (hn : n ≤ 1000000) :
    Calls Tryd.prog 41 #[U32 s, .slice A n c] w fun e w' => e = .returned (U32 (addP s l)) ∧ w' = w := by
  have hl : l.length = n := by have := hr.1; rwa [us_length] at this
  have e0 := rn32
  have HL := Lib.hid hl
  have HR := Lib.hid hr
  have HT := Lib.hid ht
  clear hl hr ht
  go_enter Tryd.func41, Tryd.ntmps41
  go_wp2_with fail
  go_loopw [5, 12] (fun r i wr => ∃ k : Nat, k ≤ n ∧ r = U32 (reg (n32 s) (l.take k)) ∧ i = .int .i64 k ∧ wr = w) (fun _ i _ => n - (intOf i).toNat)
  case atStart => exact ⟨0, by omega, rfl, rfl, rfl⟩
  case round =>
    obtain ⟨k, hk, rfl, rfl, rfl⟩ := hrel
    by_cases hlt : k < n
    · have hdk : decide ((k : Int) < (n : Int)) = true := decide_eq_true (by omega)
      obtain ⟨g, o, x, rfl, hg, hx, hc⟩ := HR.out.at8 hlt
      obtain ⟨r, HRR⟩ : ∃ r, RowKit.Hid (reg (n32 s) (l.take k) = r) := ⟨_, Lib.hid rfl⟩
      rw [HRR.out]
      have HX := Lib.hid hx
      have e1 := rb32 x
      have e2 := rx32 r (b32 x)
      have HG := Lib.hid hg
      clear hx hg
      go_wp2_with fail
      refine (four_any _ _ HT.out).mono ?_
      rintro e w1 ⟨rfl, rfl⟩
      go_wp2_with fail
      refine (four_any _ _ HT.out).mono ?_
      rintro e w1 ⟨rfl, rfl⟩
      go_wp2_with fail
      go_roundw
      case rel => exact ⟨k + 1, by omega, by rw [reg_more _ _ _ _ HX.out, HRR.out, ← byte_nib]; rfl, by simp, trivial⟩
      case measure => simp [intOf]; omega
    · have hkn : k = n := by omega
      subst hkn
      have hdk : decide ((k : Int) < (k : Int)) = false := decide_eq_false (by omega)
      have HE : RowKit.Hid (addP s l = n32 (reg (n32 s) (l.take k))) := Lib.hid (by rw [List.take_of_length_le (by have := HL.out; omega)]; rfl)
      generalize reg (n32 s) (l.take k) = r at HE ⊢
      go_wp2_with fail
      go_ret
      exact ⟨by rw [HE.out]; rfl, rfl⟩

set_option maxHeartbeats 400000 in
theorem cof_any (A : Option Addr) (n c : Nat) (l : List UInt8) (w : World) (hr : Rd w w.heap.size A n (us l)) (ht : Tabs w) (hn : n ≤ 1000000) :
    Calls Tryd.prog 29 #[.slice A n c] w fun e w' => e = .returned (U32 (addP 0 l)) ∧ w' = w := by
  have HR := Lib.hid hr
  have HT := Lib.hid ht
  clear hr ht
  go_enter Tryd.func29, Tryd.ntmps29
  go_wp2_with fail
  refine (add_any 0 A n c l w HR.out HT.out hn).mono ?_
  rintro e w1 ⟨rfl, rfl⟩
  go_wp2_with fail
  go_ret
  exact ⟨rfl, rfl⟩
end Go.Proofs.YtpnnlhegncbfaaaDoor
