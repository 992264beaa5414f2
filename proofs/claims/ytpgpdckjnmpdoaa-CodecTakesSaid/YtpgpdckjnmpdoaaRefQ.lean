/- The references' undoing: what they come to is what the codec's undoing comes to. No program is named here. -/
import Derived.Test.YtpgpdckjnmpdoaaRefP
namespace Go.Proofs.Ytpgpdckjnmpdoaa

/-- Of the first t bytes those that are written as a, b. -/
def hits (a b : UInt8) (t : Nat) : List UInt8 := ((List.range t).filter fun n => hexL [UInt8.ofNat n] == [a, b]).map UInt8.ofNat
theorem hits_yes {a b : UInt8} {t : Nat} (h : (hexL [UInt8.ofNat t] == [a, b]) = true) : hits a b (t + 1) = hits a b t ++ [UInt8.ofNat t] := by
  unfold hits; rw [List.range_succ, List.filter_append, List.map_append, List.filter_cons_of_pos (by exact h)]; rfl
theorem hits_no {a b : UInt8} {t : Nat} (h : (hexL [UInt8.ofNat t] == [a, b]) = false) : hits a b (t + 1) = hits a b t := by
  unfold hits; rw [List.range_succ, List.filter_append, List.map_append, List.filter_cons_of_neg (by rw [h]; decide)]; simp
theorem hits_length (a b : UInt8) (t : Nat) : (hits a b t).length ≤ t := by
  unfold hits; rw [List.length_map]; exact Nat.le_trans (List.length_filter_le _ _) (by simp)

def pairs : List UInt8 → List UInt8
  | a :: b :: r => hits a b 256 ++ pairs r
  | _ => []

theorem hits_hex : ∀ x : Fin 256, hits (hexd (x.val / 16)) (hexd (x.val % 16)) 256 = [UInt8.ofNat x.val] := by decide +kernel

theorem pairs_hex : ∀ l : List UInt8, pairs (hexL l) = l
  | [] => rfl
  | x :: r => by
    have := hits_hex ⟨x.toNat, x.toNat_lt⟩
    rw [hexL, pairs, this, pairs_hex r]
    simp

theorem pairs_unhex (s : List UInt8) : unhexL s = if hexL (pairs s) = s then some (pairs s) else none := by
  split
  · rename_i h
    conv => lhs; rw [← h]
    exact unhex_hex _
  · rename_i h
    cases hu : unhexL s with
    | none => rfl
    | some l =>
      have h1 := hex_unhex s l hu
      rw [← h1, pairs_hex] at h
      exact absurd rfl h

/-- The six bits of a value. -/
def bit6 (v j : Nat) : Int := ((v / 2 ^ j % 2 : Nat) : Int)
def top6 (v J : Nat) : List Int := (List.range (6 - J)).map fun i => bit6 v (5 - i)
theorem top6_all (v : Nat) : top6 v 6 = [] := rfl
theorem top6_step (v : Nat) {J : Nat} (h : J < 6) : top6 v J = top6 v (J + 1) ++ [bit6 v J] := by
  unfold top6
  rw [show 6 - J = (6 - (J + 1)) + 1 by omega, List.range_succ, List.map_append]
  simp only [List.map_cons, List.map_nil]
  rw [show 5 - (6 - (J + 1)) = J by omega]
theorem top6_length (v J : Nat) : (top6 v J).length = 6 - J := by simp [top6]
theorem top6_zero (v : Nat) : top6 v 0 = [bit6 v 5, bit6 v 4, bit6 v 3, bit6 v 2, bit6 v 1, bit6 v 0] := rfl

def sixes (S : ByteArray) : List UInt8 → Option (List Int)
  | [] => some []
  | b :: r => match val S b with
    | none => none
    | some v => (sixes S r).map (top6 v 0 ++ ·)
theorem sixes_val {S : ByteArray} {b : UInt8} {v : Nat} (r : List UInt8) (h : val S b = some v) : sixes S (b :: r) = (sixes S r).map (top6 v 0 ++ ·) := by rw [sixes, h]
theorem sixes_none {S : ByteArray} {b : UInt8} (r : List UInt8) (h : val S b = none) : sixes S (b :: r) = none := by rw [sixes, h]

def eights (P : List Int) : List UInt8 := (List.range (P.length / 8)).map fun m => UInt8.ofNat (cv P (8 * m) 8)

/-- What stands ahead of the first = . -/
def ahead (s : List UInt8) : List UInt8 := s.takeWhile (· != 61)

theorem cv_shift (A Q : List Int) (a : Nat) : ∀ j, cv (A ++ Q) (A.length + a) j = cv Q a j
  | 0 => rfl
  | j + 1 => by
    rw [cv, cv, cv_shift A Q a j]
    congr 2
    simp only [List.getD]
    rw [List.getElem?_append_right (by omega), show A.length + a + j - A.length = a + j by omega]

theorem cv_byte (x : UInt8) (Q : List Int) : cv (topD x 0 ++ Q) 0 8 = x.toNat := by
  have hx := x.toNat_lt
  rw [topD_zero]
  simp only [cv, List.getD, List.cons_append, Nat.zero_add, List.getElem?_cons_succ, List.getElem?_cons_zero, Option.getD_some, bit_toNat]
  omega

theorem cv_bytes : ∀ (l : List UInt8) (Z : List Int) (m : Nat) (h : m < l.length), cv (bitsL l ++ Z) (8 * m) 8 = l[m].toNat
  | x :: r, Z, 0, _ => by rw [bitsL, List.append_assoc]; exact cv_byte x _
  | x :: r, Z, m + 1, h => by
    have h8 := topD_length x 0
    rw [bitsL, List.append_assoc, show 8 * (m + 1) = (topD x 0).length + 8 * m by omega, cv_shift, cv_bytes r Z m (by simpa using h)]
    rfl

theorem eights_bytes (l : List UInt8) (Z : List Int) (hZ : Z.length < 8) : eights (bitsL l ++ Z) = l := by
  have hl : (bitsL l ++ Z).length / 8 = l.length := by rw [List.length_append, bitsL_length]; omega
  unfold eights
  rw [hl]
  apply List.ext_getElem (by simp)
  intro m h1 h2
  rw [List.getElem_map, List.getElem_range, cv_bytes l Z m (by simpa using h1)]
  simp

theorem bit6_eq {v j k : Nat} {x : UInt8} (h : v / 2 ^ j % 2 = x.toNat / 2 ^ k % 2) : bit6 v j = bit x k := by unfold bit6 bit; rw [h]
theorem bit6_zero {v j : Nat} (h : v / 2 ^ j % 2 = 0) : bit6 v j = 0 := by unfold bit6; rw [h]; rfl
theorem top6_of {v : Nat} {a b c d e f : Int} (h5 : bit6 v 5 = a) (h4 : bit6 v 4 = b) (h3 : bit6 v 3 = c) (h2 : bit6 v 2 = d) (h1 : bit6 v 1 = e) (h0 : bit6 v 0 = f) : top6 v 0 = [a, b, c, d, e, f] := by
  rw [top6_zero, h5, h4, h3, h2, h1, h0]
theorem t6a (x : UInt8) : top6 (x.toNat / 4) 0 = [bit x 7, bit x 6, bit x 5, bit x 4, bit x 3, bit x 2] := by
  have hx := x.toNat_lt
  exact top6_of (bit6_eq (x := x) (by omega)) (bit6_eq (x := x) (by omega)) (bit6_eq (x := x) (by omega)) (bit6_eq (x := x) (by omega)) (bit6_eq (x := x) (by omega)) (bit6_eq (x := x) (by omega))
theorem t6b (x y : UInt8) : top6 (x.toNat % 4 * 16 + y.toNat / 16) 0 = [bit x 1, bit x 0, bit y 7, bit y 6, bit y 5, bit y 4] := by
  have hx := x.toNat_lt
  have hy := y.toNat_lt
  exact top6_of (bit6_eq (x := x) (by omega)) (bit6_eq (x := x) (by omega)) (bit6_eq (x := y) (by omega)) (bit6_eq (x := y) (by omega)) (bit6_eq (x := y) (by omega)) (bit6_eq (x := y) (by omega))
theorem t6c (y z : UInt8) : top6 (y.toNat % 16 * 4 + z.toNat / 64) 0 = [bit y 3, bit y 2, bit y 1, bit y 0, bit z 7, bit z 6] := by
  have hy := y.toNat_lt
  have hz := z.toNat_lt
  exact top6_of (bit6_eq (x := y) (by omega)) (bit6_eq (x := y) (by omega)) (bit6_eq (x := y) (by omega)) (bit6_eq (x := y) (by omega)) (bit6_eq (x := z) (by omega)) (bit6_eq (x := z) (by omega))
theorem t6d (z : UInt8) : top6 (z.toNat % 64) 0 = [bit z 5, bit z 4, bit z 3, bit z 2, bit z 1, bit z 0] := by
  have hz := z.toNat_lt
  exact top6_of (bit6_eq (x := z) (by omega)) (bit6_eq (x := z) (by omega)) (bit6_eq (x := z) (by omega)) (bit6_eq (x := z) (by omega)) (bit6_eq (x := z) (by omega)) (bit6_eq (x := z) (by omega))
theorem t6e (x : UInt8) : top6 (x.toNat % 4 * 16) 0 = [bit x 1, bit x 0, 0, 0, 0, 0] := by
  have hx := x.toNat_lt
  exact top6_of (bit6_eq (x := x) (by omega)) (bit6_eq (x := x) (by omega)) (bit6_zero (by omega)) (bit6_zero (by omega)) (bit6_zero (by omega)) (bit6_zero (by omega))
theorem t6f (y : UInt8) : top6 (y.toNat % 16 * 4) 0 = [bit y 3, bit y 2, bit y 1, bit y 0, 0, 0] := by
  have hy := y.toNat_lt
  exact top6_of (bit6_eq (x := y) (by omega)) (bit6_eq (x := y) (by omega)) (bit6_eq (x := y) (by omega)) (bit6_eq (x := y) (by omega)) (bit6_zero (by omega)) (bit6_zero (by omega))

theorem sixes_group (S : ByteArray) (g : Good S 64) : ∀ l : List UInt8, ∃ Z : List Int, Z.length < 8 ∧ sixes S (encG S l) = some (bitsL l ++ Z)
  | [] => ⟨[], by decide, rfl⟩
  | [x] => by
    have hx := x.toNat_lt
    refine ⟨[0, 0, 0, 0], by decide, ?_⟩
    rw [encG, sixes_val _ (g.there _ (by omega)), sixes_val _ (g.there _ (by omega)), sixes, t6a, t6e]
    rfl
  | [x, y] => by
    have hx := x.toNat_lt
    have hy := y.toNat_lt
    refine ⟨[0, 0], by decide, ?_⟩
    rw [encG, sixes_val _ (g.there _ (by omega)), sixes_val _ (g.there _ (by omega)), sixes_val _ (g.there _ (by omega)), sixes, t6a, t6b, t6f]
    rfl
  | x :: y :: z :: r => by
    have hx := x.toNat_lt
    have hy := y.toNat_lt
    have hz := z.toNat_lt
    obtain ⟨Z, hZ, hr⟩ := sixes_group S g r
    refine ⟨Z, hZ, ?_⟩
    rw [encG, sixes_val _ (g.there _ (by omega)), sixes_val _ (g.there _ (by omega)), sixes_val _ (g.there _ (by omega)), sixes_val _ (g.there _ (by omega)), hr, t6a, t6b, t6c, t6d]
    rfl

theorem ahead_plain {t : List UInt8} (h : ∀ x ∈ t, x ≠ 61) (k : Nat) : ahead (t ++ List.replicate k 61) = t := by
  unfold ahead
  rw [List.takeWhile_append_of_pos (by intro x hx; simpa using h x hx)]
  cases k with
  | zero => simp
  | succ k => simp [List.replicate_succ]

theorem enc_plain {S : ByteArray} (hS : ∀ i, i < 64 → sg S i ≠ 61) : ∀ l : List UInt8, ∀ x ∈ encG S l, x ≠ 61
  | [], x, h => by simp [encG] at h
  | [a], x, h => by
    have ha := a.toNat_lt
    simp only [encG, List.mem_cons, List.not_mem_nil, or_false] at h
    rcases h with rfl | rfl <;> exact hS _ (by omega)
  | [a, b], x, h => by
    have ha := a.toNat_lt
    have hb := b.toNat_lt
    simp only [encG, List.mem_cons, List.not_mem_nil, or_false] at h
    rcases h with rfl | rfl | rfl <;> exact hS _ (by omega)
  | a :: b :: c :: r, x, h => by
    have ha := a.toNat_lt
    have hb := b.toNat_lt
    have hc := c.toNat_lt
    simp only [encG, List.mem_cons] at h
    rcases h with rfl | rfl | rfl | rfl | h
    · exact hS _ (by omega)
    · exact hS _ (by omega)
    · exact hS _ (by omega)
    · exact hS _ (by omega)
    · exact enc_plain hS r x h

theorem plainSU : ∀ i, i < 64 → sg SU i ≠ 61 := by decide +kernel

/-- The reference's answer, for whichever way T of writing out the signs of S. -/
def refUn (S : ByteArray) (T : List UInt8 → List UInt8) (s : List UInt8) : Option (List UInt8) :=
  match sixes S (ahead s) with
  | none => none
  | some P => if T (eights P) = s then some (eights P) else none

theorem refUn_sound {S : ByteArray} {T : List UInt8 → List UInt8} {s l : List UInt8} (h : refUn S T s = some l) : T l = s := by
  unfold refUn at h
  split at h
  · cases h
  · split at h
    · rename_i h1
      injection h with h
      rw [← h]; exact h1
    · cases h

theorem refUn_full {S : ByteArray} {T : List UInt8 → List UInt8} (g : Good S 64) (hT : ∀ l, ahead (T l) = encG S l) (l : List UInt8) : refUn S T (T l) = some l := by
  obtain ⟨Z, hZ, hs⟩ := sixes_group S g l
  unfold refUn
  rw [hT, hs]
  simp only
  rw [eights_bytes l Z hZ, if_pos rfl]

theorem same_un {C R : List UInt8 → Option (List UInt8)} {T : List UInt8 → List UInt8} (c1 : ∀ s l, C s = some l → T l = s) (c2 : ∀ l, C (T l) = some l) (r1 : ∀ s l, R s = some l → T l = s) (r2 : ∀ l, R (T l) = some l) (s : List UInt8) : C s = R s := by
  cases hc : C s with
  | some l => rw [← c1 s l hc, r2]
  | none =>
    cases hr : R s with
    | none => rfl
    | some l =>
      have := r1 s l hr
      rw [← this, c2] at hc
      cases hc

theorem unbase_ref (s : List UInt8) : unbaseL SB s = refUn SB (baseL SB) s := by
  refine same_un (T := baseL SB) (fun s l h => base_unbase h) unbase_base (fun s l h => refUn_sound h) (refUn_full goodSB fun l => ?_) s
  unfold baseL pad
  rw [signsL_enc]
  exact ahead_plain (enc_plain plainSB l) _

theorem unurl_ref (s : List UInt8) : decL SU s = refUn SU (urlL SU) s := by
  refine same_un (T := urlL SU) (fun s l h => url_unurl h) unurl_url (fun s l h => refUn_sound h) (refUn_full goodSU fun l => ?_) s
  unfold urlL
  rw [signsL_enc]
  have := ahead_plain (enc_plain plainSU l) 0
  simpa using this

end Go.Proofs.Ytpgpdckjnmpdoaa
