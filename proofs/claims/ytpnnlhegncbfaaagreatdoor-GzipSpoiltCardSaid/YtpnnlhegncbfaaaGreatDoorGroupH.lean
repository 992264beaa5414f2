
/- Packed bytes: what blocks of kind 0 come to. No program is named here: made ahead of the layer that will need it. -/

/- Packed bytes: a sign is told by the next fifteen bits. No program is named here: made ahead of the layer that will need it. -/

/- Which lengths New takes, by 'right'. Made ahead of the layer that will need it. -/
import Derived.Test.YtpnnlhegncbfaaaGreatDoorGroupG
import Derived.Test.YtpnnlhegncbfaaaGreatDoorGroupF
namespace Go.Proofs.YtpnnlhegncbfaaaGreatDoor
set_option maxRecDepth 20000

theorem bitsL_cons (x : UInt8) (l : List UInt8) : bitsL (x :: l) = lowB x.toNat 8 ++ bitsL l := by
  rw [show x :: l = [x] ++ l from rfl, bitsL_append, bitsL_one]
theorem bitsL_drop (l : List UInt8) (q : Nat) : (bitsL l).drop (8 * q) = bitsL (l.drop q) := by
  induction q generalizing l with
  | zero => rfl
  | succ q ih =>
    cases l with
    | nil => simp [bitsL]
    | cons x l =>
      rw [bitsL_cons, show 8 * (q + 1) = 8 + 8 * q by omega, ← List.drop_drop, List.drop_left' (lowB_length _ _), ih]; rfl
theorem byte_low (x : UInt8) : numB (lowB x.toNat 8) = x.toNat := by
  rw [numB_lowB]; have := x.toNat_lt; omega
theorem bytesB_bits : ∀ (n : Nat) (l : List UInt8), n ≤ l.length → bytesB (bitsL l) n = l.take n
  | 0, _, _ => rfl
  | n + 1, [], h => by simp at h
  | n + 1, x :: l, h => by
    rw [bytesB, bitsL_cons, List.take_left' (lowB_length _ _), List.drop_left' (lowB_length _ _), byte_low, bytesB_bits n l (by simpa using h)]
    simp
/-- A number of whole bytes at a whole byte. -/
theorem num_bytes {l : List UInt8} {q k : Nat} (h : q + k ≤ l.length) (lim : Nat) (o : List UInt8) (st : Nat) : numX (8 * k) (bitsL l) lim ⟨8 * q, o, st⟩ = .ok (numL ((l.drop q).take k), ⟨8 * (q + k), o, st⟩) := by
  unfold numX
  rw [if_neg (by rw [bitsL_length]; show ¬ 8 * l.length < 8 * q + 8 * k; omega)]
  show Except.ok (numB (((bitsL l).drop (8 * q)).take (8 * k)), _) = _
  rw [bitsL_drop]
  have e : (bitsL (l.drop q)).take (8 * k) = bitsL ((l.drop q).take k) := by
    have h1 : bitsL (l.drop q) = bitsL ((l.drop q).take k) ++ bitsL ((l.drop q).drop k) := by rw [← bitsL_append, List.take_append_drop]
    rw [h1, List.take_left' (by rw [bitsL_length, List.length_take, List.length_drop]; omega)]
  rw [e, numB_bitsL]
  show Except.ok (_, Sx.mk (8 * q + 8 * k) o st) = _
  rw [show 8 * q + 8 * k = 8 * (q + k) by omega]
/-- A block of kind 0 as bytes. -/
def blk (i : Nat) (x : List UInt8) : List UInt8 :=
  [UInt8.ofNat i, UInt8.ofNat (x.length % 256), UInt8.ofNat (x.length / 256), UInt8.ofNat (255 - x.length % 256), UInt8.ofNat (255 - x.length / 256)] ++ x
theorem blk_length (i : Nat) (x : List UInt8) : (blk i x).length = x.length + 5 := by simp [blk]
theorem of_lt {k : Nat} (h : k < 256) : (UInt8.ofNat k).toNat = k := by rw [UInt8.toNat_ofNat']; omega
/-- The first three bits of such a block. -/
theorem bits3 {l : List UInt8} {q i : Nat} {r : List UInt8} (hl : l.drop q = UInt8.ofNat i :: r) (hi : i < 2) (lim : Nat) (o : List UInt8) (st : Nat) :
    numX 1 (bitsL l) lim ⟨8 * q, o, st⟩ = .ok (i, ⟨8 * q + 1, o, st⟩) ∧ numX 2 (bitsL l) lim ⟨8 * q + 1, o, st⟩ = .ok (0, ⟨8 * q + 3, o, st⟩) := by
  have hq : q < l.length := by
    apply Nat.lt_of_not_le
    intro h
    rw [List.drop_of_length_le h] at hl; cases hl
  have hL : 8 * q + 8 ≤ (bitsL l).length := by rw [bitsL_length]; omega
  have hd : (bitsL l).drop (8 * q) = lowB i 8 ++ bitsL r := by rw [bitsL_drop, hl, bitsL_cons, of_lt (by omega)]
  constructor
  · unfold numX
    rw [if_neg (by show ¬ (bitsL l).length < 8 * q + 1; omega)]
    show Except.ok (numB (((bitsL l).drop (8 * q)).take 1), _) = _
    rw [hd, List.take_append_of_le_length (by rw [lowB_length]; decide), lowB_take _ _ _ (by decide), numB_lowB, Nat.mod_eq_of_lt (by omega)]
  · unfold numX
    rw [if_neg (by show ¬ (bitsL l).length < 8 * q + 1 + 2; omega)]
    show Except.ok (numB (((bitsL l).drop (8 * q + 1)).take 2), _) = _
    have e : ((bitsL l).drop (8 * q + 1)).take 2 = ((lowB i 8).drop 1).take 2 := by
      rw [← List.drop_drop, hd, List.drop_append_of_le_length (by rw [lowB_length]; decide), List.take_append_of_le_length (by rw [List.length_drop, lowB_length]; decide)]
    rw [e, numB_part (bin_lowB i 8) 1 2 (by rw [lowB_length]; decide), numB_lowB]
    have : i % 2 ^ 8 / 2 ^ 1 % 2 ^ 2 = 0 := by
      rcases i with _ | _ | i
      · rfl
      · rfl
      · omega
    rw [this]
/-- A block of kind 0 among bytes. -/
theorem block_blk {l : List UInt8} {q i : Nat} {x r : List UInt8} (hl : l.drop q = blk i x ++ r) (hi : i < 2) (hx : x.length < 65536) (F lim : Nat) (o : List UInt8) (st : Nat) :
    blockX F (bitsL l) lim ⟨8 * q, o, st⟩ = if lim < o.length + x.length then .error 3 else .ok (decide (i = 1), ⟨8 * (q + 5 + x.length), o ++ x, st + 1 + x.length⟩) := by
  have hlen : q + 5 + x.length ≤ l.length := by
    have := congrArg List.length hl
    rw [List.length_drop, List.length_append, blk_length] at this
    omega
  have hl1 : l.drop q = UInt8.ofNat i :: ((blk i x).drop 1 ++ r) := by rw [hl]; rfl
  obtain ⟨b1, b2⟩ := bits3 hl1 hi lim o (st + 1)
  have hd1 : l.drop (q + 1) = (blk i x).drop 1 ++ r := by rw [← List.drop_drop, hl1]; rfl
  have n1 : numL ((l.drop (q + 1)).take 2) = x.length := by
    rw [hd1]
    show (UInt8.ofNat (x.length % 256)).toNat + 256 * ((UInt8.ofNat (x.length / 256)).toNat + 256 * 0) = _
    rw [of_lt (by omega), of_lt (by omega)]
    omega
  have n2 : numL ((l.drop (q + 1 + 2)).take 2) = 65535 - x.length := by
    have hd3 : l.drop (q + 1 + 2) = (blk i x).drop 3 ++ r := by rw [← List.drop_drop, hd1]; rfl
    rw [hd3]
    show (UInt8.ofNat (255 - x.length % 256)).toNat + 256 * ((UInt8.ofNat (255 - x.length / 256)).toNat + 256 * 0) = _
    rw [of_lt (by omega), of_lt (by omega)]
    omega
  have hd5 : l.drop (q + 5) = x ++ r := by
    rw [show q + 5 = q + 1 + 4 by omega, ← List.drop_drop, hd1]; rfl
  have m1 : numX 16 (bitsL l) lim ⟨8 * (q + 1), o, st + 1⟩ = .ok (x.length, ⟨8 * (q + 1 + 2), o, st + 1⟩) := by
    have := num_bytes (l := l) (q := q + 1) (k := 2) (by omega) lim o (st + 1)
    rwa [n1] at this
  have m2 : numX 16 (bitsL l) lim ⟨8 * (q + 1 + 2), o, st + 1⟩ = .ok (65535 - x.length, ⟨8 * (q + 1 + 2 + 2), o, st + 1⟩) := by
    have := num_bytes (l := l) (q := q + 1 + 2) (k := 2) (by omega) lim o (st + 1)
    rwa [n2] at this
  have ms : storeX x.length (bitsL l) lim ⟨8 * (q + 1 + 2 + 2), o, st + 1⟩ = if lim < o.length + x.length then .error 3 else .ok ((), ⟨8 * (q + 5 + x.length), o ++ x, st + 1 + x.length⟩) := by
    unfold storeX
    by_cases hc : lim < o.length + x.length
    · rw [if_pos hc, if_pos hc]
    · rw [if_neg hc, if_neg hc, if_neg (by rw [bitsL_length]; show ¬ 8 * l.length < 8 * (q + 1 + 2 + 2) + 8 * x.length; omega)]
      show Except.ok ((), Sx.mk (8 * (q + 1 + 2 + 2) + 8 * x.length) (o ++ bytesB ((bitsL l).drop (8 * (q + 1 + 2 + 2))) x.length) _) = _
      rw [bitsL_drop, show q + 1 + 2 + 2 = q + 5 by omega, hd5, bytesB_bits _ _ (by simp), List.take_left' rfl, show 8 * (q + 5) + 8 * x.length = 8 * (q + 5 + x.length) by omega]
  have ma : storedX (bitsL l) lim ⟨8 * q + 3, o, st + 1⟩ = if lim < o.length + x.length then .error 3 else .ok ((), ⟨8 * (q + 5 + x.length), o ++ x, st + 1 + x.length⟩) := by
    refine ok_bind (a := ()) (s1 := ⟨8 * (q + 1), o, st + 1⟩) ?_ (ok_bind m1 (ok_bind m2 ?_))
    · show Except.ok ((), Sx.mk ((8 * q + 3 + 7) / 8 * 8) o (st + 1)) = _
      rw [show (8 * q + 3 + 7) / 8 * 8 = 8 * (q + 1) by omega]
    · rw [if_neg (by omega)]; exact ms
  refine ok_bind (a := ()) (s1 := ⟨8 * q, o, st + 1⟩) rfl (ok_bind b1 (ok_bind b2 ?_))
  show bindX storedX (fun _ => pureX (decide (i = 1))) (bitsL l) lim ⟨8 * q + 3, o, st + 1⟩ = _
  unfold bindX
  rw [ma]
  by_cases hc : lim < o.length + x.length
  · rw [if_pos hc, if_pos hc]
  · rw [if_neg hc, if_neg hc]; rfl
/-- Two blocks of kind 0, the second one the last. -/
theorem infl_two (x y : List UInt8) (hx : x.length < 65536) (hy : y.length < 65536) (F lim : Nat) (hF : 2 ≤ F) :
    inflF F (bitsL (blk 0 x ++ blk 1 y)) lim = if lim < x.length + y.length then .error 3 else .ok ((), ⟨8 * (10 + x.length + y.length), x ++ y, x.length + y.length + 2⟩) := by
  obtain ⟨k, rfl⟩ : ∃ k, F = k + 2 := ⟨F - 2, by omega⟩
  have e1 := block_blk (l := blk 0 x ++ blk 1 y) (q := 0) (i := 0) (x := x) (r := blk 1 y) rfl (by decide) hx (k + 2) lim [] 0
  have hd : (blk 0 x ++ blk 1 y).drop (0 + 5 + x.length) = blk 1 y ++ [] := by
    rw [List.append_nil]
    exact List.drop_left' (by rw [blk_length]; omega)
  have e2 := block_blk (l := blk 0 x ++ blk 1 y) (q := 0 + 5 + x.length) (i := 1) (x := y) (r := []) hd (by decide) hy (k + 2) lim ([] ++ x) (0 + 1 + x.length)
  unfold inflF
  show bindX (blockX (k + 2)) _ _ lim ⟨8 * 0, [], 0⟩ = _
  unfold bindX
  rw [e1]
  by_cases c1 : lim < ([] : List UInt8).length + x.length
  · rw [if_pos c1, if_pos (by simp at c1; omega)]
  · rw [if_neg c1]
    show bindX (blockX (k + 2)) _ _ lim _ = _
    unfold bindX
    rw [e2]
    by_cases c2 : lim < ([] ++ x).length + y.length
    · rw [if_pos c2, if_pos (by simpa using c2)]
    · rw [if_neg c2, if_neg (by simpa using c2)]
      show Except.ok ((), Sx.mk _ _ _) = _
      rw [show 8 * (0 + 5 + x.length + 5 + y.length) = 8 * (10 + x.length + y.length) by omega, show 0 + 1 + x.length + 1 + y.length = x.length + y.length + 2 by omega]
      rfl
end Go.Proofs.YtpnnlhegncbfaaaGreatDoor
namespace Go.Proofs.YtpnnlhegncbfaaaGreatDoor
set_option maxRecDepth 20000

theorem hit_15 {ls : List Nat} (hl : Low ls) (M : List UInt8) (s : Nat) : hitP ls (M.take 15) s ↔ hitP ls M s := by
  have h15 := lenAt_low hl s
  unfold hitP
  rw [List.length_take, List.take_take, Nat.min_eq_left h15]
  exact ⟨fun ⟨h1, h2, h3⟩ => ⟨h1, by omega, h3⟩, fun ⟨h1, h2, h3⟩ => ⟨h1, by omega, h3⟩⟩
theorem tkO_15 {ls : List Nat} (hl : Low ls) (M : List UInt8) : tkO ls (M.take 15) = tkO ls M := by
  unfold tkO
  congr 1
  funext s
  simp only [hit_15 hl M s]
theorem q15_take (M : List UInt8) : q15 (M.take 15) = q15 M := by unfold q15; rw [List.length_take]; omega
theorem tail_15 (ls : List Nat) (M : List UInt8) : tailP ls (M.take 15) ↔ tailP ls M := by
  unfold tailP
  have hq : q15 M ≤ 15 := by unfold q15; omega
  rw [q15_take, List.take_take, Nat.min_eq_left hq]
theorem tkS_15 {ls : List Nat} (hl : Low ls) (M : List UInt8) : tkS ls (M.take 15) = tkS ls M := by unfold tkS; rw [tkO_15 hl]
theorem tkN_15 {ls : List Nat} (hl : Low ls) (M : List UInt8) : tkN ls (M.take 15) = tkN ls M := by unfold tkN; rw [tkO_15 hl]
theorem tkE_15 {ls : List Nat} (hl : Low ls) (M : List UInt8) : tkE ls (M.take 15) = tkE ls M := by
  unfold tkE
  rw [tkO_15 hl]
  cases tkO ls M with
  | some s => rfl
  | none =>
    by_cases h : tailP ls M
    · rw [if_pos h, if_pos ((tail_15 ls M).2 h)]
    · rw [if_neg h, if_neg (fun h' => h ((tail_15 ls M).1 h'))]
/-- A sign that is taken is one of the code's, and has a code. -/
theorem tkS_lt {ls : List Nat} {M : List UInt8} (h : tkE ls M = 0) : tkS ls M < ls.length ∧ lenAt ls (tkS ls M) ≠ 0 ∧ tkN ls M = lenAt ls (tkS ls M) := by
  obtain ⟨s, hO, hs⟩ := tk_ok h
  have e : tkS ls M = s := by unfold tkS; rw [hO]; rfl
  rw [e]
  exact ⟨lenAt_lt hs.1, hs.1, by unfold tkN; rw [hO]⟩
/-- The fixed codes are right. -/
theorem fix_right : right fixA false = true ∧ right fixB true = true := by decide +kernel
end Go.Proofs.YtpnnlhegncbfaaaGreatDoor
namespace Go.Proofs.YtpnnlhegncbfaaaGreatDoor
set_option maxRecDepth 20000

theorem newE_right {L : List Int} (lone : Bool) (h1 : L.length ≤ 320) (h2 : rng L) : newE L lone = 0 ↔ right (nats L) lone = true := by
  unfold newE right
  rw [if_neg (by omega), if_neg (not_not_intro h2), decide_eq_true_iff]
  by_cases h3 : okF (cnt (nats L))
  · rw [if_neg (not_not_intro h3)]
    by_cases h4 : fst (cnt (nats L)) 16 = 65536 ∨ (lone = true ∧ loneF (cnt (nats L)))
    · rw [if_pos h4]; exact ⟨fun _ => ⟨h3, h4⟩, fun _ => rfl⟩
    · rw [if_neg h4]; exact ⟨fun h => by omega, fun h => absurd h.2 h4⟩
  · rw [if_pos h3]; exact ⟨fun h => by omega, fun h => absurd h.1 h3⟩
end Go.Proofs.YtpnnlhegncbfaaaGreatDoor
