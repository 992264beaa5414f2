/- Contract of fmtEFG, where the form is that with an exponent. -/
import Derived.Test.YtfebfkbdbncihaaGreatDoorNte
import Derived.Deep.Cut
import Derived.Deep.CutRange
namespace Go.Proofs.YtfebfkbdbncihaaGreatDoor
set_option maxRecDepth 100000
open Go.RowKit

/-- The figures of an exponent. -/
def expL (x : Nat) : List UInt8 := if x < 10 then [48, UInt8.ofNat (48 + x)] else if x < 100 then [UInt8.ofNat (48 + x / 10), UInt8.ofNat (48 + x % 10)]
  else [UInt8.ofNat (48 + x / 100), UInt8.ofNat (48 + x / 10 % 10), UInt8.ofNat (48 + x % 10)]
/-- The figures ahead of the exponent. -/
def mantL (D : List UInt8) (nd : Nat) : List UInt8 := match nd with
  | 0 => [48]
  | 1 => D.take 1
  | k + 2 => D.take 1 ++ 46 :: (D.drop 1).take (k + 1)
def expN (dp : Int) (nd : Nat) : Int := if nd = 0 then 0 else dp - 1
def sgL (neg : Bool) : List UInt8 := if neg then [45] else []
theorem sgL_le (neg : Bool) : (sgL neg).length ≤ 1 := by cases neg <;> decide
def efL (neg : Bool) (D : List UInt8) (nd : Nat) (dp : Int) : List UInt8 :=
  sgL neg ++ mantL D nd ++ [101] ++ [if expN dp nd < 0 then 45 else 43] ++ expL (expN dp nd).natAbs
/-- What a float's text is while it is made: the row v with the bytes l, beside the figures D in block b. -/
structure EF (w0 W : World) (N b : Nat) (v : Value) (l D : List UInt8) : Prop where
  own : Own W N v l
  nb : ∀ k, v.ownBlock = some k → k ≠ b
  bl : Below N w0 W
  lt : b < W.heap.size
  nl : N ≤ b
  dg : ∀ j c, D[j]? = some c → W.cell? ⟨b, j, none⟩ = some (.int .u8 (c.toNat : Int))
theorem EF.push {w0 W W' : World} {N b : Nat} {v v' : Value} {l bs D : List UInt8} (h : EF w0 W N b v l D) (ho : Own W' N v' (l ++ bs)) (hg : W.grownBy W' v.ownBlock) (hf : Fresh W v v') : EF w0 W' N b v' (l ++ bs) D := by
  have hsz : N ≤ W.heap.size := by have := h.lt; have := h.nl; omega
  have hbk : W'.heap[b]? = W.heap[b]? := hg.block b h.lt (fun e => h.nb b e.symm rfl)
  refine ⟨ho, fun k hk => ?_, h.bl.grown hg hsz (fun k hk => (World.ownsRow.lt h.own k hk).1), Nat.lt_of_lt_of_le h.lt hg.size, h.nl, fun j c hc => ?_⟩
  · rcases hf with e | ⟨k2, e, hk2⟩
    · rw [e] at hk; exact h.nb k hk
    · rw [e] at hk; injection hk with hk; have := h.lt; omega
  · have := h.dg j c hc
    unfold World.cell? at this ⊢
    dsimp only at this ⊢
    rw [hbk]; exact this
theorem EF.len {w0 W : World} {N b : Nat} {v : Value} {l D : List UInt8} (h : EF w0 W N b v l D) : N ≤ W.heap.size := by have := h.lt; have := h.nl; omega
theorem EF.slice {w0 W : World} {N b : Nat} {v : Value} {l D : List UInt8} (h : EF w0 W N b v l D) : ∃ A n c, v = .slice A n c := by
  obtain ⟨A, c, e⟩ := h.own.slice
  exact ⟨A, _, c, e⟩
theorem EF.rd {w0 W : World} {N b : Nat} {v : Value} {l D : List UInt8} (h : EF w0 W N b v l D) (o m : Nat) (hm : o + m ≤ D.length) {A : Option Addr} (hA : A = some ⟨b, o, none⟩) {n : Nat} (hn : n = m) : Rd W W.heap.size A n (us ((D.drop o).take m)) := by
  subst hA hn
  refine ⟨by rw [us_length, List.length_take, List.length_drop]; omega, fun _ => ⟨b, o, rfl, h.lt, fun j u hu => ?_⟩⟩
  unfold us at hu
  rw [List.getElem?_map] at hu
  cases e : ((D.drop o).take n)[j]? with
  | none => rw [e] at hu; cases hu
  | some x =>
    rw [e] at hu
    injection hu with hu
    rw [← hu]
    refine h.dg (o + j) x ?_
    rw [List.getElem?_take] at e
    split at e
    · rwa [List.getElem?_drop] at e
    · cases e
theorem ofNat_val (n : Nat) (h : n < 256) : (UInt8.ofNat n).toNat = n := by
  rw [UInt8.toNat_ofNat']; exact Nat.mod_eq_of_lt h
end Go.Proofs.YtfebfkbdbncihaaGreatDoor
