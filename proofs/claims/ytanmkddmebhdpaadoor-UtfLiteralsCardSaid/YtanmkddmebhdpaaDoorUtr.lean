/- The document's reading of one sign, and that it is the language's. No program in it. -/
import Derived.Test.YtanmkddmebhdpaaDoorUtq
import Derived.Test.YtanmkddmebhdpaaDoorUth
import Derived.Lib.DecodeNEq
namespace Go.Proofs.YtanmkddmebhdpaaDoor
set_option maxRecDepth 100000
open Go.Lib

def pw (k : Nat) : Nat := if k = 0 then 1 else if k = 1 then 64 else if k = 2 then 4096 else 262144
/-- No right sign's number lies from x * pw k on. -/
def exS (least x k : Nat) : Prop := (x + 1) * pw k - 1 < least ∨ 1114111 < x * pw k ∨ (55296 ≤ x * pw k ∧ (x + 1) * pw k - 1 ≤ 57343)
instance (a b c : Nat) : Decidable (exS a b c) := by unfold exS; infer_instance
/-- k bytes more are looked at. -/
def goS (least many : Nat) : Nat → List UInt8 → Nat → Nat × Int
  | 0, _, x => if exS least x 0 then (0, 0) else (x, (many : Int))
  | k + 1, rest, x => if exS least x (k + 1) then (0, 0) else match rest with
    | [] => (0, -1)
    | b :: r => if b.toNat < 128 ∨ 192 ≤ b.toNat then (0, 0) else goS least many k r (x * 64 + b.toNat - 128)
/-- The sign with which bytes begin, and how many it has; 0: none; -1: what is there may be the beginning of one. -/
def signP : List UInt8 → Nat × Int
  | [] => (0, -1)
  | b :: r =>
    if b.toNat < 128 then (b.toNat, 1)
    else if 192 ≤ b.toNat ∧ b.toNat < 224 then goS 128 2 1 r (b.toNat - 192)
    else if 224 ≤ b.toNat ∧ b.toNat < 240 then goS 2048 3 2 r (b.toNat - 224)
    else if 240 ≤ b.toNat ∧ b.toNat < 248 then goS 65536 4 3 r (b.toNat - 240)
    else (0, 0)
theorem goS_zero (least many x : Nat) (r : List UInt8) : goS least many 0 r x = if exS least x 0 then (0, 0) else (x, (many : Int)) := rfl
theorem goS_nil (least many k x : Nat) : goS least many (k + 1) [] x = if exS least x (k + 1) then (0, 0) else (0, -1) := rfl
theorem goS_cons (least many k x : Nat) (b : UInt8) (r : List UInt8) : goS least many (k + 1) (b :: r) x = if exS least x (k + 1) then (0, 0) else if b.toNat < 128 ∨ 192 ≤ b.toNat then (0, 0) else goS least many k r (x * 64 + b.toNat - 128) := rfl
/-- By numbers: the bytes behind the first one (256: none). -/
def byN (b0 b1 b2 b3 : Nat) (n : Nat) : Nat × Int :=
  if b0 < 128 then (b0, 1)
  else if 192 ≤ b0 ∧ b0 < 224 then
    (if exS 128 (b0 - 192) 1 then (0, 0) else if n < 2 then (0, -1) else if b1 < 128 ∨ 192 ≤ b1 then (0, 0) else if exS 128 ((b0 - 192) * 64 + b1 - 128) 0 then (0, 0) else ((b0 - 192) * 64 + b1 - 128, 2))
  else if 224 ≤ b0 ∧ b0 < 240 then
    (if exS 2048 (b0 - 224) 2 then (0, 0) else if n < 2 then (0, -1) else if b1 < 128 ∨ 192 ≤ b1 then (0, 0) else
      if exS 2048 ((b0 - 224) * 64 + b1 - 128) 1 then (0, 0) else if n < 3 then (0, -1) else if b2 < 128 ∨ 192 ≤ b2 then (0, 0) else
      if exS 2048 (((b0 - 224) * 64 + b1 - 128) * 64 + b2 - 128) 0 then (0, 0) else (((b0 - 224) * 64 + b1 - 128) * 64 + b2 - 128, 3))
  else if 240 ≤ b0 ∧ b0 < 248 then
    (if exS 65536 (b0 - 240) 3 then (0, 0) else if n < 2 then (0, -1) else if b1 < 128 ∨ 192 ≤ b1 then (0, 0) else
      if exS 65536 ((b0 - 240) * 64 + b1 - 128) 2 then (0, 0) else if n < 3 then (0, -1) else if b2 < 128 ∨ 192 ≤ b2 then (0, 0) else
      if exS 65536 (((b0 - 240) * 64 + b1 - 128) * 64 + b2 - 128) 1 then (0, 0) else if n < 4 then (0, -1) else if b3 < 128 ∨ 192 ≤ b3 then (0, 0) else
      if exS 65536 ((((b0 - 240) * 64 + b1 - 128) * 64 + b2 - 128) * 64 + b3 - 128) 0 then (0, 0) else ((((b0 - 240) * 64 + b1 - 128) * 64 + b2 - 128) * 64 + b3 - 128, 4))
  else (0, 0)
theorem signP_byN (l : List UInt8) (hl : l ≠ []) : signP l = byN (l.getD 0 0).toNat (l.getD 1 0).toNat (l.getD 2 0).toNat (l.getD 3 0).toNat l.length := by
  have t1 : ¬ 1 < 1 := by decide
  match l, hl with
  | [b0], _ =>
    simp only [signP, byN, goS_nil, List.getD_cons_zero, List.length_cons, List.length_nil]
    simp only [show (0 + 1 < 2) = True from by simp, if_true]
  | [b0, b1], _ =>
    simp only [signP, byN, goS_nil, goS_cons, goS_zero, List.getD_cons_zero, List.getD_cons_succ, List.length_cons, List.length_nil]
    simp only [show (0 + 1 + 1 < 2) = False from by simp, show (0 + 1 + 1 < 3) = True from by simp, if_true, if_false]
    rfl
  | [b0, b1, b2], _ =>
    simp only [signP, byN, goS_nil, goS_cons, goS_zero, List.getD_cons_zero, List.getD_cons_succ, List.length_cons, List.length_nil]
    simp only [show (0 + 1 + 1 + 1 < 2) = False from by simp, show (0 + 1 + 1 + 1 < 3) = False from by simp, show (0 + 1 + 1 + 1 < 4) = True from by simp, if_true, if_false]
    rfl
  | b0 :: b1 :: b2 :: b3 :: r, _ =>
    simp only [signP, byN, goS_cons, goS_zero, List.getD_cons_zero, List.getD_cons_succ, List.length_cons]
    have h2 : ¬ (r.length + 1 + 1 + 1 + 1 < 2) := by omega
    have h3 : ¬ (r.length + 1 + 1 + 1 + 1 < 3) := by omega
    have h4 : ¬ (r.length + 1 + 1 + 1 + 1 < 4) := by omega
    simp only [h2, h3, h4, if_false]
    rfl
end Go.Proofs.YtanmkddmebhdpaaDoor
