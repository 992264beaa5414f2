/- Bits of bytes, filled and read by sixes: what the reference's base64 comes to, group by group. No program is named here. -/
import Derived.Test.YtpgpdckjnmpdoaaDec
namespace Go.Proofs.Ytpgpdckjnmpdoaa

def bit (x : UInt8) (j : Nat) : Int := ((x.toNat / 2 ^ j % 2 : Nat) : Int)
/-- The bits 7 down to J. -/
def topD (x : UInt8) (J : Nat) : List Int := (List.range (8 - J)).map fun i => bit x (7 - i)
theorem topD_all (x : UInt8) : topD x 8 = [] := rfl
theorem topD_step (x : UInt8) {J : Nat} (h : J < 8) : topD x J = topD x (J + 1) ++ [bit x J] := by
  unfold topD
  rw [show 8 - J = (8 - (J + 1)) + 1 by omega, List.range_succ, List.map_append]
  simp only [List.map_cons, List.map_nil]
  rw [show 7 - (8 - (J + 1)) = J by omega]
theorem topD_length (x : UInt8) (J : Nat) : (topD x J).length = 8 - J := by simp [topD]

def bitsL : List UInt8 → List Int
  | [] => []
  | x :: r => topD x 0 ++ bitsL r
theorem bitsL_snoc (l : List UInt8) (x : UInt8) : bitsL (l ++ [x]) = bitsL l ++ topD x 0 := by
  induction l with
  | nil => simp [bitsL]
  | cons y l ih => simp [bitsL, ih]
theorem bitsL_length (l : List UInt8) : (bitsL l).length = 8 * l.length := by
  induction l with
  | nil => rfl
  | cons y l ih => simp only [bitsL, List.length_append, topD_length, ih, List.length_cons]; omega

def pad6 (o : List Int) : List Int := o ++ List.replicate ((6 - o.length % 6) % 6) 0
theorem pad6_done {o : List Int} (h : o.length % 6 = 0) : pad6 o = o := by simp [pad6, h]
theorem pad6_more {o : List Int} (h : o.length % 6 ≠ 0) : pad6 (o ++ [0]) = pad6 o := by
  unfold pad6
  rw [List.length_append, List.length_singleton, show (6 - o.length % 6) % 6 = (6 - (o.length + 1) % 6) % 6 + 1 by omega, List.replicate_succ]
  simp
theorem pad6_length (o : List Int) : (pad6 o).length = (o.length + 5) / 6 * 6 := by
  unfold pad6; rw [List.length_append, List.length_replicate]; omega

def Bits (l : List Int) : Prop := ∀ x ∈ l, 0 ≤ x ∧ x ≤ 1
theorem bits_bit (x : UInt8) (j : Nat) : 0 ≤ bit x j ∧ bit x j ≤ 1 := by unfold bit; omega
theorem bits_top (x : UInt8) (J : Nat) : Bits (topD x J) := by
  intro y hy
  simp only [topD, List.mem_map] at hy
  obtain ⟨i, _, rfl⟩ := hy
  exact bits_bit _ _
theorem Bits.append {a b : List Int} (ha : Bits a) (hb : Bits b) : Bits (a ++ b) := fun x hx => by
  rcases List.mem_append.1 hx with h | h
  · exact ha x h
  · exact hb x h
theorem bits_bitsL (l : List UInt8) : Bits (bitsL l) := by
  induction l with
  | nil => intro x hx; cases hx
  | cons y l ih => exact (bits_top y 0).append ih
theorem bits_pad6 {l : List Int} (h : Bits l) : Bits (pad6 l) := by
  refine h.append fun x hx => ?_
  rw [List.mem_replicate] at hx
  omega

/-- What so many bits in a row, from place a on, come to. -/
def cv (P : List Int) (a : Nat) : Nat → Nat
  | 0 => 0
  | j + 1 => cv P a j * 2 + (P.getD (a + j) 0).toNat
theorem cv_lt {P : List Int} (h : Bits P) (a : Nat) : ∀ j, cv P a j < 2 ^ j
  | 0 => by simp [cv]
  | j + 1 => by
    have := cv_lt h a j
    have hb : (P.getD (a + j) 0).toNat ≤ 1 := by
      by_cases hl : a + j < P.length
      · have := h _ (List.getElem_mem hl)
        simp only [List.getD, List.getElem?_eq_getElem hl, Option.getD_some]
        omega
      · simp [List.getD, List.getElem?_eq_none (Nat.le_of_not_lt hl)]
    rw [cv, Nat.pow_succ]
    omega

theorem topD_zero (x : UInt8) : topD x 0 = [bit x 7, bit x 6, bit x 5, bit x 4, bit x 3, bit x 2, bit x 1, bit x 0] := rfl

theorem bit_toNat (x : UInt8) (j : Nat) : (bit x j).toNat = x.toNat / 2 ^ j % 2 := Int.toNat_natCast _

theorem group1 (S : ByteArray) (x : UInt8) : (List.range 2).map (fun m => sg S (cv (pad6 (bitsL [x])) (6 * m) 6)) = encG S [x] := by
  have hx := x.toNat_lt
  have hp : pad6 (bitsL [x]) = [bit x 7, bit x 6, bit x 5, bit x 4, bit x 3, bit x 2, bit x 1, bit x 0, 0, 0, 0, 0] := by simp [pad6, bitsL, topD_zero, List.replicate]
  rw [hp]
  simp only [List.range, List.range.loop, List.map_cons, List.map_nil, encG]
  have e0 : cv [bit x 7, bit x 6, bit x 5, bit x 4, bit x 3, bit x 2, bit x 1, bit x 0, 0, 0, 0, 0] (6 * 0) 6 = x.toNat / 4 := by
    simp only [cv, List.getD, Nat.reduceMul, Nat.reduceAdd, List.getElem?_cons_succ, List.getElem?_cons_zero, Option.getD_some, bit_toNat]
    omega
  have e1 : cv [bit x 7, bit x 6, bit x 5, bit x 4, bit x 3, bit x 2, bit x 1, bit x 0, 0, 0, 0, 0] (6 * 1) 6 = x.toNat % 4 * 16 := by
    simp only [cv, List.getD, Nat.reduceMul, Nat.reduceAdd, List.getElem?_cons_succ, List.getElem?_cons_zero, Option.getD_some, bit_toNat, Int.toNat_zero]
    omega
  rw [e0, e1]

theorem group2 (S : ByteArray) (x y : UInt8) : (List.range 3).map (fun m => sg S (cv (pad6 (bitsL [x, y])) (6 * m) 6)) = encG S [x, y] := by
  have hx := x.toNat_lt
  have hy := y.toNat_lt
  have hp : pad6 (bitsL [x, y]) = [bit x 7, bit x 6, bit x 5, bit x 4, bit x 3, bit x 2, bit x 1, bit x 0, bit y 7, bit y 6, bit y 5, bit y 4, bit y 3, bit y 2, bit y 1, bit y 0, 0, 0] := by simp [pad6, bitsL, topD_zero, List.replicate]
  rw [hp]
  simp only [List.range, List.range.loop, List.map_cons, List.map_nil, encG]
  have e0 : cv [bit x 7, bit x 6, bit x 5, bit x 4, bit x 3, bit x 2, bit x 1, bit x 0, bit y 7, bit y 6, bit y 5, bit y 4, bit y 3, bit y 2, bit y 1, bit y 0, 0, 0] (6 * 0) 6 = x.toNat / 4 := by
    simp only [cv, List.getD, Nat.reduceMul, Nat.reduceAdd, List.getElem?_cons_succ, List.getElem?_cons_zero, Option.getD_some, bit_toNat]
    omega
  have e1 : cv [bit x 7, bit x 6, bit x 5, bit x 4, bit x 3, bit x 2, bit x 1, bit x 0, bit y 7, bit y 6, bit y 5, bit y 4, bit y 3, bit y 2, bit y 1, bit y 0, 0, 0] (6 * 1) 6 = x.toNat % 4 * 16 + y.toNat / 16 := by
    simp only [cv, List.getD, Nat.reduceMul, Nat.reduceAdd, List.getElem?_cons_succ, List.getElem?_cons_zero, Option.getD_some, bit_toNat]
    omega
  have e2 : cv [bit x 7, bit x 6, bit x 5, bit x 4, bit x 3, bit x 2, bit x 1, bit x 0, bit y 7, bit y 6, bit y 5, bit y 4, bit y 3, bit y 2, bit y 1, bit y 0, 0, 0] (6 * 2) 6 = y.toNat % 16 * 4 := by
    simp only [cv, List.getD, Nat.reduceMul, Nat.reduceAdd, List.getElem?_cons_succ, List.getElem?_cons_zero, Option.getD_some, bit_toNat, Int.toNat_zero]
    omega
  rw [e0, e1, e2]

theorem group3 (S : ByteArray) (x y z : UInt8) : (List.range 4).map (fun m => sg S (cv (pad6 (bitsL [x, y, z])) (6 * m) 6)) = encG S [x, y, z] := by
  have hx := x.toNat_lt
  have hy := y.toNat_lt
  have hz := z.toNat_lt
  have hp : pad6 (bitsL [x, y, z]) = [bit x 7, bit x 6, bit x 5, bit x 4, bit x 3, bit x 2, bit x 1, bit x 0, bit y 7, bit y 6, bit y 5, bit y 4, bit y 3, bit y 2, bit y 1, bit y 0, bit z 7, bit z 6, bit z 5, bit z 4, bit z 3, bit z 2, bit z 1, bit z 0] := by simp [pad6, bitsL, topD_zero]
  rw [hp]
  simp only [List.range, List.range.loop, List.map_cons, List.map_nil, encG]
  have e0 : cv [bit x 7, bit x 6, bit x 5, bit x 4, bit x 3, bit x 2, bit x 1, bit x 0, bit y 7, bit y 6, bit y 5, bit y 4, bit y 3, bit y 2, bit y 1, bit y 0, bit z 7, bit z 6, bit z 5, bit z 4, bit z 3, bit z 2, bit z 1, bit z 0] (6 * 0) 6 = x.toNat / 4 := by
    simp only [cv, List.getD, Nat.reduceMul, Nat.reduceAdd, List.getElem?_cons_succ, List.getElem?_cons_zero, Option.getD_some, bit_toNat]
    omega
  have e1 : cv [bit x 7, bit x 6, bit x 5, bit x 4, bit x 3, bit x 2, bit x 1, bit x 0, bit y 7, bit y 6, bit y 5, bit y 4, bit y 3, bit y 2, bit y 1, bit y 0, bit z 7, bit z 6, bit z 5, bit z 4, bit z 3, bit z 2, bit z 1, bit z 0] (6 * 1) 6 = x.toNat % 4 * 16 + y.toNat / 16 := by
    simp only [cv, List.getD, Nat.reduceMul, Nat.reduceAdd, List.getElem?_cons_succ, List.getElem?_cons_zero, Option.getD_some, bit_toNat]
    omega
  have e2 : cv [bit x 7, bit x 6, bit x 5, bit x 4, bit x 3, bit x 2, bit x 1, bit x 0, bit y 7, bit y 6, bit y 5, bit y 4, bit y 3, bit y 2, bit y 1, bit y 0, bit z 7, bit z 6, bit z 5, bit z 4, bit z 3, bit z 2, bit z 1, bit z 0] (6 * 2) 6 = y.toNat % 16 * 4 + z.toNat / 64 := by
    simp only [cv, List.getD, Nat.reduceMul, Nat.reduceAdd, List.getElem?_cons_succ, List.getElem?_cons_zero, Option.getD_some, bit_toNat]
    omega
  have e3 : cv [bit x 7, bit x 6, bit x 5, bit x 4, bit x 3, bit x 2, bit x 1, bit x 0, bit y 7, bit y 6, bit y 5, bit y 4, bit y 3, bit y 2, bit y 1, bit y 0, bit z 7, bit z 6, bit z 5, bit z 4, bit z 3, bit z 2, bit z 1, bit z 0] (6 * 3) 6 = z.toNat % 64 := by
    simp only [cv, List.getD, Nat.reduceMul, Nat.reduceAdd, List.getElem?_cons_succ, List.getElem?_cons_zero, Option.getD_some, bit_toNat]
    omega
  rw [e0, e1, e2, e3]

theorem group_len (S : ByteArray) (g : List UInt8) : (pad6 (bitsL g)).length = 6 * (encG S g).length := by
  rw [pad6_length, bitsL_length, encG_length]; omega

theorem group_signs (S : ByteArray) (g : List UInt8) (h1 : 0 < g.length) (h3 : g.length ≤ 3) (m : Nat) (hm : m < (encG S g).length) : (encG S g)[m]? = some (sg S (cv (pad6 (bitsL g)) (6 * m) 6)) := by
  match g, h1, h3 with
  | [x], _, _ =>
    have h2 : m < 2 := by simpa [encG] using hm
    rw [← group1, List.getElem?_map, List.getElem?_range h2]; rfl
  | [x, y], _, _ =>
    have h2 : m < 3 := by simpa [encG] using hm
    rw [← group2, List.getElem?_map, List.getElem?_range h2]; rfl
  | [x, y, z], _, _ =>
    have h2 : m < 4 := by simpa [encG] using hm
    rw [← group3, List.getElem?_map, List.getElem?_range h2]; rfl
  | [], h1, _ => simp at h1
  | _ :: _ :: _ :: _ :: _, _, h3 => simp at h3

end Go.Proofs.Ytpgpdckjnmpdoaa
