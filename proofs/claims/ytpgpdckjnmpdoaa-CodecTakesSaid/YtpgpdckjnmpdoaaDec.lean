/- The undoing of hexadecimal and base64, and that each pair undoes itself. No program is named here. -/
import Derived.Test.YtpgpdckjnmpdoaaEnc
namespace Go.Proofs.Ytpgpdckjnmpdoaa

def val (S : ByteArray) (b : UInt8) : Option Nat := S.data.toList.findIdx? (· == b)

theorem val_lt {S : ByteArray} {b : UInt8} {v : Nat} (h : val S b = some v) : v < S.size := by
  have := (List.findIdx?_eq_some_iff_findIdx_eq.1 h).1
  simpa using this

theorem index_val (l : List UInt8) (b : UInt8) : Lib.indexByte l b = match l.findIdx? (· == b) with | some i => (i : Int) | none => -1 := by
  induction l with
  | nil => rfl
  | cons x l ih =>
    unfold Lib.indexByte
    rw [List.findIdx?_cons, ih]
    by_cases hx : (x == b) = true
    · simp [hx]
    · simp only [hx]
      cases h : l.findIdx? (· == b) with
      | none => simp
      | some i => simp

/-- Signs that tell 64 (or 16) values apart. -/
structure Good (S : ByteArray) (N : Nat) : Prop where
  size : S.size = N
  there : ∀ i, i < N → val S (sg S i) = some i
  back : ∀ b v, val S b = some v → sg S v = b

def dstep (t : List UInt8 × Nat × Nat) (v : Nat) : List UInt8 × Nat × Nat :=
  if t.2.2 = 0 then (t.1, v, 6)
  else if t.2.2 = 6 then (t.1 ++ [UInt8.ofNat ((t.2.1 * 64 + v) / 16)], (t.2.1 * 64 + v) % 16, 4)
  else if t.2.2 = 4 then (t.1 ++ [UInt8.ofNat ((t.2.1 * 64 + v) / 4)], (t.2.1 * 64 + v) % 4, 2)
  else (t.1 ++ [UInt8.ofNat (t.2.1 * 64 + v)], 0, 0)

def drun (S : ByteArray) : List UInt8 × Nat × Nat → List UInt8 → Option (List UInt8)
  | t, [] => if t.2.1 = 0 then some t.1 else none
  | t, b :: r => match val S b with
    | none => none
    | some v => drun S (dstep t v) r

def decL (S : ByteArray) (s : List UInt8) : Option (List UInt8) := if s.length % 4 = 1 then none else drun S ([], 0, 0) s

def unhexL : List UInt8 → Option (List UInt8)
  | a :: b :: r => match val figs a, val figs b with
    | some h, some l => (unhexL r).map (UInt8.ofNat (h * 16 + l) :: ·)
    | _, _ => none
  | [_] => none
  | [] => some []

def strip (s : List UInt8) : List UInt8 := if s.getLast? = some 61 then s.dropLast else s
def unbaseL (S : ByteArray) (s : List UInt8) : Option (List UInt8) := if s.length % 4 = 0 then decL S (strip (strip s)) else none

theorem drun_val {S : ByteArray} {b : UInt8} {v : Nat} (t : List UInt8 × Nat × Nat) (r : List UInt8) (h : val S b = some v) : drun S t (b :: r) = drun S (dstep t v) r := by
  rw [drun, h]
theorem drun_none {S : ByteArray} {b : UInt8} (t : List UInt8 × Nat × Nat) (r : List UInt8) (h : val S b = none) : drun S t (b :: r) = none := by
  rw [drun, h]

theorem ofNat_toNat (x : UInt8) : UInt8.ofNat x.toNat = x := by simp

theorem drun_enc {S : ByteArray} (g : Good S 64) : ∀ (l o : List UInt8), drun S (o, 0, 0) (encG S l) = some (o ++ l)
  | [], o => by simp [encG, drun]
  | [x], o => by
    have hx := x.toNat_lt
    rw [encG, drun_val _ _ (g.there _ (by omega)), drun_val _ _ (g.there _ (by omega))]
    simp only [dstep, drun, if_true, if_false, Nat.reduceEqDiff]
    rw [if_pos (by omega), show (x.toNat / 4 * 64 + x.toNat % 4 * 16) / 16 = x.toNat by omega, ofNat_toNat]
  | [x, y], o => by
    have hx := x.toNat_lt
    have hy := y.toNat_lt
    rw [encG, drun_val _ _ (g.there _ (by omega)), drun_val _ _ (g.there _ (by omega)), drun_val _ _ (g.there _ (by omega))]
    simp only [dstep, drun, if_true, if_false, Nat.reduceEqDiff]
    rw [if_pos (by omega), show (x.toNat / 4 * 64 + (x.toNat % 4 * 16 + y.toNat / 16)) / 16 = x.toNat by omega,
      show ((x.toNat / 4 * 64 + (x.toNat % 4 * 16 + y.toNat / 16)) % 16 * 64 + y.toNat % 16 * 4) / 4 = y.toNat by omega, ofNat_toNat, ofNat_toNat]
    simp
  | x :: y :: z :: r, o => by
    have hx := x.toNat_lt
    have hy := y.toNat_lt
    have hz := z.toNat_lt
    rw [encG, drun_val _ _ (g.there _ (by omega)), drun_val _ _ (g.there _ (by omega)), drun_val _ _ (g.there _ (by omega)), drun_val _ _ (g.there _ (by omega))]
    simp only [dstep, if_true, if_false, Nat.reduceEqDiff]
    rw [show (x.toNat / 4 * 64 + (x.toNat % 4 * 16 + y.toNat / 16)) / 16 = x.toNat by omega,
      show ((x.toNat / 4 * 64 + (x.toNat % 4 * 16 + y.toNat / 16)) % 16 * 64 + (y.toNat % 16 * 4 + z.toNat / 64)) / 4 = y.toNat by omega,
      show ((x.toNat / 4 * 64 + (x.toNat % 4 * 16 + y.toNat / 16)) % 16 * 64 + (y.toNat % 16 * 4 + z.toNat / 64)) % 4 * 64 + z.toNat % 64 = z.toNat by omega,
      ofNat_toNat, ofNat_toNat, ofNat_toNat, drun_enc g r]
    simp

theorem decL_enc {S : ByteArray} (g : Good S 64) (l : List UInt8) : decL S (encG S l) = some l := by
  unfold decL
  rw [if_neg (by rw [encG_length]; omega), drun_enc g l []]
  rfl

theorem toNat_small (n : Nat) (h : n < 256) : (UInt8.ofNat n).toNat = n := by
  rw [UInt8.toNat_ofNat']; omega

theorem sg_inj {S : ByteArray} (g : Good S 64) {i : Nat} {b : UInt8} {v : Nat} (hv : val S b = some v) (h : i = v) : sg S i = b := by
  rw [h]; exact g.back b v hv

theorem enc_drun {S : ByteArray} (g : Good S 64) : ∀ (s o r : List UInt8), s.length % 4 ≠ 1 → drun S (o, 0, 0) s = some r → ∃ l, r = o ++ l ∧ encG S l = s
  | [], o, r, _, h => ⟨[], by simpa [drun, eq_comm] using h, rfl⟩
  | [a], o, r, h1, _ => by simp at h1
  | [a, b], o, r, _, h => by
    cases ha : val S a with
    | none => rw [drun_none _ _ ha] at h; cases h
    | some va =>
    cases hb : val S b with
    | none => rw [drun_val _ _ ha, drun_none _ _ hb] at h; cases h
    | some vb =>
      have la := val_lt ha
      have lb := val_lt hb
      rw [g.size] at la lb
      rw [drun_val _ _ ha, drun_val _ _ hb] at h
      simp only [dstep, drun, if_true, if_false, Nat.reduceEqDiff] at h
      split at h
      · rename_i h0
        injection h with h
        refine ⟨_, h.symm, ?_⟩
        simp only [encG]
        rw [toNat_small _ (by omega), sg_inj g ha (by omega), sg_inj g hb (by omega)]
      · cases h
  | [a, b, c], o, r, _, h => by
    cases ha : val S a with
    | none => rw [drun_none _ _ ha] at h; cases h
    | some va =>
    cases hb : val S b with
    | none => rw [drun_val _ _ ha, drun_none _ _ hb] at h; cases h
    | some vb =>
    cases hc : val S c with
    | none => rw [drun_val _ _ ha, drun_val _ _ hb, drun_none _ _ hc] at h; cases h
    | some vc =>
      have la := val_lt ha
      have lb := val_lt hb
      have lc := val_lt hc
      rw [g.size] at la lb lc
      rw [drun_val _ _ ha, drun_val _ _ hb, drun_val _ _ hc] at h
      simp only [dstep, drun, if_true, if_false, Nat.reduceEqDiff] at h
      split at h
      · rename_i h0
        injection h with h
        rw [List.append_assoc] at h
        refine ⟨_, h.symm, ?_⟩
        simp only [List.cons_append, List.nil_append, encG]
        rw [toNat_small _ (by omega), toNat_small _ (by omega), sg_inj g ha (by omega), sg_inj g hb (by omega), sg_inj g hc (by omega)]
      · cases h
  | a :: b :: c :: d :: t, o, r, h1, h => by
    cases ha : val S a with
    | none => rw [drun_none _ _ ha] at h; cases h
    | some va =>
    cases hb : val S b with
    | none => rw [drun_val _ _ ha, drun_none _ _ hb] at h; cases h
    | some vb =>
    cases hc : val S c with
    | none => rw [drun_val _ _ ha, drun_val _ _ hb, drun_none _ _ hc] at h; cases h
    | some vc =>
    cases hd : val S d with
    | none => rw [drun_val _ _ ha, drun_val _ _ hb, drun_val _ _ hc, drun_none _ _ hd] at h; cases h
    | some vd =>
      have la := val_lt ha
      have lb := val_lt hb
      have lc := val_lt hc
      have ld := val_lt hd
      rw [g.size] at la lb lc ld
      rw [drun_val _ _ ha, drun_val _ _ hb, drun_val _ _ hc, drun_val _ _ hd] at h
      simp only [dstep, if_true, if_false, Nat.reduceEqDiff] at h
      obtain ⟨l, hr, hl⟩ := enc_drun g t _ r (by simp at h1; omega) h
      rw [List.append_assoc, List.append_assoc, List.append_assoc] at hr
      refine ⟨_, hr, ?_⟩
      simp only [List.cons_append, List.nil_append, encG]
      rw [toNat_small _ (by omega), toNat_small _ (by omega), toNat_small _ (by omega), sg_inj g ha (by omega), sg_inj g hb (by omega), sg_inj g hc (by omega), sg_inj g hd (by omega), hl]

theorem enc_decL {S : ByteArray} (g : Good S 64) {s l : List UInt8} (h : decL S s = some l) : encG S l = s := by
  unfold decL at h
  split at h
  · cases h
  · rename_i h1
    obtain ⟨l', hl, he⟩ := enc_drun g s [] l h1 h
    rw [List.nil_append] at hl
    rw [hl, he]

theorem goodSB : Good SB 64 := ⟨rfl, by decide +kernel, fun b v h => by
  have : ∀ b : Fin 256, ∀ v ∈ val SB (UInt8.ofNat b.val), sg SB v = UInt8.ofNat b.val := by decide +kernel
  have := this ⟨b.toNat, b.toNat_lt⟩ v (by simpa using h)
  simpa using this⟩
theorem goodSU : Good SU 64 := ⟨rfl, by decide +kernel, fun b v h => by
  have : ∀ b : Fin 256, ∀ v ∈ val SU (UInt8.ofNat b.val), sg SU v = UInt8.ofNat b.val := by decide +kernel
  have := this ⟨b.toNat, b.toNat_lt⟩ v (by simpa using h)
  simpa using this⟩

theorem hexd_val : ∀ i, i < 16 → val figs (hexd i) = some i := by decide +kernel
theorem val_hexd (b : UInt8) (v : Nat) (h : val figs b = some v) : hexd v = b := by
  have : ∀ b : Fin 256, ∀ v ∈ val figs (UInt8.ofNat b.val), hexd v = UInt8.ofNat b.val := by decide +kernel
  have := this ⟨b.toNat, b.toNat_lt⟩ v (by simpa using h)
  simpa using this

theorem unhex_hex : ∀ l : List UInt8, unhexL (hexL l) = some l
  | [] => rfl
  | x :: r => by
    have hx := x.toNat_lt
    rw [hexL, unhexL, hexd_val _ (by omega), hexd_val _ (by omega)]
    simp only [unhex_hex r, Option.map_some]
    rw [show x.toNat / 16 * 16 + x.toNat % 16 = x.toNat by omega, ofNat_toNat]

theorem hex_unhex : ∀ (s l : List UInt8), unhexL s = some l → hexL l = s
  | [], l, h => by
    injection h with h
    rw [← h]; rfl
  | [a], l, h => by cases h
  | a :: b :: r, l, h => by
    rw [unhexL] at h
    cases ha : val figs a with
    | none => rw [ha] at h; cases h
    | some va =>
    cases hb : val figs b with
    | none => rw [ha, hb] at h; cases h
    | some vb =>
      have la : va < 16 := val_lt ha
      have lb : vb < 16 := val_lt hb
      rw [ha, hb] at h
      simp only [Option.map_eq_some_iff] at h
      obtain ⟨l', hl, rfl⟩ := h
      rw [hexL, toNat_small _ (by omega), hex_unhex r l' hl, show (va * 16 + vb) / 16 = va by omega, show (va * 16 + vb) % 16 = vb by omega, val_hexd a va ha, val_hexd b vb hb]

theorem strip_eq (t : List UInt8) : strip (t ++ [61]) = t := by simp [strip]
theorem strip_ne {t : List UInt8} (h : t.getLast? ≠ some 61) : strip t = t := by simp [strip, h]

/-- What is stripped twice, told. -/
theorem strip_cases (s : List UInt8) : (strip s = s ∧ s.getLast? ≠ some 61) ∨ ∃ t, s = t ++ [61] ∧ strip s = t := by
  by_cases h : s.getLast? = some 61
  · right
    refine ⟨s.dropLast, ?_, by simp [strip, h]⟩
    have hne : s ≠ [] := by intro e; rw [e] at h; cases h
    have := List.dropLast_concat_getLast hne
    rw [List.getLast?_eq_some_getLast hne] at h
    injection h with h
    rw [h] at this
    exact this.symm
  · exact .inl ⟨strip_ne h, h⟩

theorem enc_last {S : ByteArray} (hS : ∀ i, i < 64 → sg S i ≠ 61) : ∀ l : List UInt8, (encG S l).getLast? ≠ some 61
  | [] => by simp [encG]
  | [x] => by
    have hx := x.toNat_lt
    simp only [encG, List.getLast?_cons_cons, List.getLast?_singleton]
    intro h; injection h with h; exact hS _ (by omega) h
  | [x, y] => by
    have hy := y.toNat_lt
    simp only [encG, List.getLast?_cons_cons, List.getLast?_singleton]
    intro h; injection h with h; exact hS _ (by omega) h
  | [x, y, z] => by
    have hz := z.toNat_lt
    simp only [encG, List.getLast?_cons_cons, List.getLast?_singleton]
    intro h; injection h with h; exact hS _ (by omega) h
  | x :: y :: z :: a :: r => by
    have := enc_last hS (a :: r)
    have hne : encG S (a :: r) ≠ [] := by
      have h := encG_length S (a :: r)
      intro e; rw [e] at h; simp at h; omega
    obtain ⟨b, t, hbt⟩ := List.exists_cons_of_ne_nil hne
    rw [encG, hbt, List.getLast?_cons_cons, List.getLast?_cons_cons, List.getLast?_cons_cons, List.getLast?_cons_cons, ← hbt]
    exact this

theorem plainSB : ∀ i, i < 64 → sg SB i ≠ 61 := by decide +kernel

theorem unbase_base (l : List UInt8) : unbaseL SB (baseL SB l) = some l := by
  unfold unbaseL
  rw [if_pos (by rw [baseL_length]; omega)]
  have hlast := enc_last plainSB l
  have hlen := encG_length SB l
  have hst : strip (strip (baseL SB l)) = encG SB l := by
    unfold baseL
    rw [signsL_enc]
    unfold pad
    have h4 : (encG SB l).length % 4 = 0 ∨ (encG SB l).length % 4 = 2 ∨ (encG SB l).length % 4 = 3 := by omega
    rcases h4 with h | h | h
    · rw [h]
      show strip (strip (encG SB l ++ [])) = _
      rw [List.append_nil, strip_ne hlast, strip_ne hlast]
    · rw [h]
      show strip (strip (encG SB l ++ ([61] ++ [61]))) = _
      rw [← List.append_assoc, strip_eq, strip_eq]
    · rw [h]
      show strip (strip (encG SB l ++ [61])) = _
      rw [strip_eq, strip_ne hlast]
  rw [hst, decL_enc goodSB]

theorem base_unbase {s l : List UInt8} (h : unbaseL SB s = some l) : baseL SB l = s := by
  unfold unbaseL at h
  split at h
  · rename_i h4
    have he := enc_decL goodSB h
    have hlen := encG_length SB l
    unfold baseL
    rw [signsL_enc, he]
    rw [he] at hlen
    unfold pad
    rcases strip_cases s with ⟨h1, h1'⟩ | ⟨t, rfl, h1⟩
    · rw [h1, h1] at hlen ⊢
      rw [h4]
      exact List.append_nil s
    · rw [h1] at hlen ⊢
      rcases strip_cases t with ⟨h2, h2'⟩ | ⟨u, rfl, h2⟩
      · rw [h2] at hlen ⊢
        rw [List.length_append, List.length_singleton] at h4
        rw [show (4 - t.length % 4) % 4 = 1 by omega]
        rfl
      · rw [h2] at hlen ⊢
        rw [List.length_append, List.length_append, List.length_singleton] at h4
        rw [show (4 - u.length % 4) % 4 = 2 by omega, List.append_assoc]
        rfl
  · cases h

theorem unurl_url (l : List UInt8) : decL SU (urlL SU l) = some l := by
  unfold urlL; rw [signsL_enc, decL_enc goodSU]
theorem url_unurl {s l : List UInt8} (h : decL SU s = some l) : urlL SU l = s := by
  unfold urlL; rw [signsL_enc, enc_decL goodSU h]

end Go.Proofs.Ytpgpdckjnmpdoaa
