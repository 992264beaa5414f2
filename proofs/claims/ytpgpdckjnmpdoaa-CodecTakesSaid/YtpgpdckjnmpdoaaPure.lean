/- The plain functions on lists of bytes that the codec's calls come to, and their laws. No program is named here. -/
import Derived.Lib.Bytealg
namespace Go.Proofs.Ytpgpdckjnmpdoaa

def figs : ByteArray := ⟨#[48, 49, 50, 51, 52, 53, 54, 55, 56, 57, 97, 98, 99, 100, 101, 102]⟩
def hexd (n : Nat) : UInt8 := if n < 10 then UInt8.ofNat (48 + n) else UInt8.ofNat (87 + n)
def hexL : List UInt8 → List UInt8
  | [] => []
  | b :: r => hexd (b.toNat / 16) :: hexd (b.toNat % 16) :: hexL r

theorem hexL_append (a b : List UInt8) : hexL (a ++ b) = hexL a ++ hexL b := by
  induction a with
  | nil => rfl
  | cons x a ih => simp [hexL, ih]

theorem hexL_length (a : List UInt8) : (hexL a).length = 2 * a.length := by
  induction a with
  | nil => rfl
  | cons x a ih => simp [hexL, ih]; omega

theorem take_more {α : Type} {l : List α} {k : Nat} {x : α} (h : l[k]? = some x) : l.take (k + 1) = l.take k ++ [x] := by
  obtain ⟨hk, rfl⟩ := List.getElem?_eq_some_iff.1 h
  exact List.take_succ_eq_append_getElem hk

def sg (S : ByteArray) (i : Nat) : UInt8 := S.data.toList.getD i 0

def drain (S : ByteArray) (o : List UInt8) (h c : Nat) : List UInt8 × Nat × Nat :=
  if c = 12 then (o ++ [sg S (h / 64)] ++ [sg S (h % 64)], 0, 0)
  else if c = 10 then (o ++ [sg S (h / 16)], h % 16, 4)
  else if c = 8 then (o ++ [sg S (h / 4)], h % 4, 2)
  else if c = 6 then (o ++ [sg S h], 0, 0)
  else (o, h, c)

def step (S : ByteArray) (t : List UInt8 × Nat × Nat) (x : UInt8) : List UInt8 × Nat × Nat := drain S t.1 (t.2.1 * 256 + x.toNat) (t.2.2 + 8)
def st (S : ByteArray) (l : List UInt8) : List UInt8 × Nat × Nat := l.foldl (step S) ([], 0, 0)
def flush (S : ByteArray) (t : List UInt8 × Nat × Nat) : List UInt8 :=
  if t.2.2 = 2 then t.1 ++ [sg S (t.2.1 * 16)] else if t.2.2 = 4 then t.1 ++ [sg S (t.2.1 * 4)] else t.1
def signsL (S : ByteArray) (l : List UInt8) : List UInt8 := flush S (st S l)

theorem st_snoc (S : ByteArray) (l : List UInt8) (x : UInt8) : st S (l ++ [x]) = step S (st S l) x := by simp [st]

end Go.Proofs.Ytpgpdckjnmpdoaa
