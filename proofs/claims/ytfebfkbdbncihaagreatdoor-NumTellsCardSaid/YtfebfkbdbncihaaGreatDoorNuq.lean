/- A number's text, as plain functions of its bytes. -/
import Derived.Lib.Hide
namespace Go.Proofs.YtfebfkbdbncihaaGreatDoor
set_option maxRecDepth 20000

def dig (c : UInt8) : Bool := decide (48 ≤ c.toNat) && decide (c.toNat ≤ 57)
/-- The figures that a text begins with, and what is behind them. -/
def figs (l : List UInt8) : List UInt8 := l.takeWhile dig
def rest (l : List UInt8) : List UInt8 := l.dropWhile dig
def figN (l : List UInt8) : Nat := (figs l).length
theorem figs_rest (l : List UInt8) : figs l ++ rest l = l := List.takeWhile_append_dropWhile
theorem figN_le (l : List UInt8) : figN l ≤ l.length := by
  have := congrArg List.length (figs_rest l)
  rw [List.length_append] at this
  unfold figN; omega
theorem figs_take (l : List UInt8) : l.take (figN l) = figs l := by
  have h := figs_rest l
  unfold figN
  generalize figs l = a at h ⊢
  generalize rest l = b at h
  subst h
  simp
theorem rest_drop (l : List UInt8) : l.drop (figN l) = rest l := by
  have h := figs_rest l
  unfold figN
  generalize figs l = a at h ⊢
  generalize rest l = b at h ⊢
  subst h
  simp
theorem figs_dig (l : List UInt8) : ∀ c ∈ figs l, dig c = true := by
  induction l with
  | nil => intro c hc; cases hc
  | cons a l ih =>
    intro c hc
    unfold figs at hc
    rw [List.takeWhile_cons] at hc
    split at hc
    · rename_i h
      rcases List.mem_cons.1 hc with e | e
      · subst e; exact h
      · exact ih c e
    · cases hc
theorem fig_at {l : List UInt8} {k : Nat} (h : k < figN l) : ∃ c, l[k]? = some c ∧ dig c = true := by
  have hr := figs_rest l
  have hd := figs_dig l
  unfold figN at h
  generalize figs l = a at hr hd h
  generalize rest l = b at hr
  subst hr
  exact ⟨a[k], by rw [List.getElem?_append_left h, List.getElem?_eq_getElem h], hd _ (List.getElem_mem h)⟩
theorem rest_head (l : List UInt8) (c : UInt8) (t : List UInt8) (h : rest l = c :: t) : dig c = false := by
  have := List.head?_dropWhile_not dig l
  unfold rest at h
  rw [h] at this
  simpa using this
theorem fig_end {l : List UInt8} (h : figN l < l.length) : ∃ c, l[figN l]? = some c ∧ dig c = false := by
  have hr := figs_rest l
  have hd := rest_head l
  unfold figN at h ⊢
  generalize figs l = a at hr h ⊢
  generalize rest l = b at hr hd
  subst hr
  cases b with
  | nil => simp at h
  | cons c t => exact ⟨c, by rw [List.getElem?_append_right (Nat.le_refl _), Nat.sub_self]; rfl, hd c t rfl⟩
/-- A text without the byte c ahead, and whether it was there. -/
def cutB (c : UInt8) (l : List UInt8) : Bool := match l with | [] => false | a :: _ => a == c
def cutR (c : UInt8) (l : List UInt8) : List UInt8 := if cutB c l then l.tail else l
theorem cutR_le (c : UInt8) (l : List UInt8) : (cutR c l).length ≤ l.length := by
  unfold cutR; split
  · rw [List.length_tail]; omega
  · exact Nat.le_refl _
theorem figs_le (l : List UInt8) : (figs l).length ≤ l.length := figN_le l
theorem rest_le (l : List UInt8) : (rest l).length ≤ l.length := by
  have := congrArg List.length (figs_rest l)
  rw [List.length_append] at this; omega
/-- The power of ten that figures say, at most 1000. -/
def powS (n : Nat) (c : UInt8) : Nat := min (n * 10 + (c.toNat - 48)) 1000
def powN (l : List UInt8) : Nat := l.foldl powS 0
theorem powS_le (n : Nat) (c : UInt8) : powS n c ≤ 1000 := Nat.min_le_right _ _
theorem powN_le (l : List UInt8) : powN l ≤ 1000 := by
  unfold powN
  suffices h : ∀ n ≤ 1000, l.foldl powS n ≤ 1000 by exact h 0 (by omega)
  induction l with
  | nil => intro n hn; exact hn
  | cons a l ih => intro n _; exact ih _ (powS_le n a)
theorem powN_more {l : List UInt8} {k : Nat} {c : UInt8} (h : l[k]? = some c) : powN (l.take (k + 1)) = powS (powN (l.take k)) c := by
  have hk : k < l.length := by
    rcases Nat.lt_or_ge k l.length with h1 | h1
    · exact h1
    · rw [List.getElem?_eq_none h1] at h; cases h
  have e : l[k] = c := by rw [List.getElem?_eq_getElem hk] at h; injection h
  unfold powN
  rw [List.take_succ_eq_append_getElem hk, List.foldl_append, e]
  rfl
/-- The figures of a power, behind its sign. -/
def powT (t : List UInt8) : List UInt8 := if cutB 45 t then cutR 45 t else cutR 43 (cutR 45 t)
def powOk (s : List UInt8) : Bool := match s with
  | [] => false
  | a :: t => (a == 101 || a == 69) && !(figs (powT t)).isEmpty && (rest (powT t)).isEmpty
def powZ (t : List UInt8) : Int := if cutB 45 t then -(powN (figs (powT t)) : Int) else (powN (figs (powT t)) : Int)
end Go.Proofs.YtfebfkbdbncihaaGreatDoor
