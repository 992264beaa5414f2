/- Rows of tokens: a slice of tokens that reads as a list, one that the call made itself, append on it. -/
import Derived.Test.YtnadnokjhinmcaaTks
import Derived.Test.YtnadnokjhinmcaaInts
namespace Go.Proofs.Ytnadnokjhinmcaa
open Go.RowKit

def tokC (a : Tk) : List Value := [U8 a.b, .int .i64 a.l, .int .i64 a.d]
abbrev tokV (a : Tk) : Value := .agg #[U8 a.b, .int .i64 a.l, .int .i64 a.d]
def toksC : List Tk → List Value
  | [] => []
  | o :: r => tokC o ++ toksC r
theorem toksC_append (a b : List Tk) : toksC (a ++ b) = toksC a ++ toksC b := by
  induction a with
  | nil => rfl
  | cons x a ih => simp [toksC, ih]
theorem toksC_length (a : List Tk) : (toksC a).length = a.length * 3 := by
  induction a with
  | nil => rfl
  | cons x a ih => simp [toksC, tokC, ih]; omega
theorem toksC_one (l : List Tk) : ∀ u ∈ toksC l, u.oneCell' = true := by
  induction l with
  | nil => intro u hu; cases hu
  | cons x a ih =>
    intro u hu
    rcases List.mem_append.1 hu with h | h
    · simp only [tokC, List.mem_cons, List.not_mem_nil, or_false] at h
      rcases h with rfl | rfl | rfl <;> rfl
    · exact ih u h
theorem toksC_at : ∀ (l : List Tk) (i : Nat) (x : Tk), l[i]? = some x → ∀ j u, (tokC x)[j]? = some u → (toksC l)[i * 3 + j]? = some u
  | y :: r, 0, x, h, j, u, hu => by
    injection h with h
    subst h
    rw [toksC, List.getElem?_append_left (by have := (List.getElem?_eq_some_iff.1 hu).1; simpa using this)]
    simpa using hu
  | y :: r, i + 1, x, h, j, u, hu => by
    rw [toksC, List.getElem?_append_right (by simp [tokC]; omega)]
    have := toksC_at r i x (by simpa using h) j u hu
    rw [show (i + 1) * 3 + j - (tokC y).length = i * 3 + j by simp [tokC]; omega]
    exact this

theorem info45 : (Try.prog.info? 45).map (fun i => (i.zero, i.size, i.bytes)) = some (some (.agg #[.int .u8 0, .int .i64 0, .int .i64 0]), 3, 24) := by kernel_rfl
theorem info31 : (Try.prog.info? 31).map (fun i => (i.zero, i.size, i.bytes)) = some (some (.agg #[.int .u8 0, .int .i64 0, .int .i64 0]), 3, 24) := by kernel_rfl

/-- A slice of tokens that reads as a list; where it is not empty it lies below block B. -/
def RdT (w : World) (B : Nat) (A : Option Addr) (n : Nat) (l : List Tk) : Prop :=
  l.length = n ∧ (0 < n → ∃ g o, A = some ⟨g, o, none⟩ ∧ g < B ∧ ∀ i x, l[i]? = some x → ∀ j u, (tokC x)[j]? = some u → w.cell? ⟨g, o + (i * 3 + j), none⟩ = some u)
theorem RdT.cells {w : World} {B : Nat} {A : Option Addr} {n : Nat} {l : List Tk} (h : RdT w B A n l) {k : Nat} (hk : k < n) :
    ∃ g o a, A = some ⟨g, o, none⟩ ∧ g < B ∧ l[k]? = some a ∧ w.cell? ⟨g, o + k * 3, none⟩ = some (.int .u8 (a.b.toNat : Int)) ∧ w.cell? ⟨g, o + k * 3 + 1, none⟩ = some (.int .i64 a.l) ∧ w.cell? ⟨g, o + k * 3 + 2, none⟩ = some (.int .i64 a.d) := by
  obtain ⟨g, o, rfl, hg, hc⟩ := h.2 (by omega)
  have hl : k < l.length := by rw [h.1]; exact hk
  have hc := hc k _ (List.getElem?_eq_getElem hl)
  refine ⟨g, o, l[k], rfl, hg, List.getElem?_eq_getElem hl, hc 0 _ rfl, ?_, ?_⟩
  · rw [Nat.add_assoc]; exact hc 1 _ rfl
  · rw [Nat.add_assoc]; exact hc 2 _ rfl
theorem RdT.below {w w' : World} {B : Nat} {A : Option Addr} {n : Nat} {l : List Tk} (h : RdT w B A n l) (hb : Below B w w') : RdT w' B A n l := by
  refine ⟨h.1, fun hn => ?_⟩
  obtain ⟨g, o, rfl, hg, hc⟩ := h.2 hn
  exact ⟨g, o, rfl, hg, fun i x hi j u hu => (hb.cell (p := ⟨g, o + (i * 3 + j), none⟩) hg).trans (hc i x hi j u hu)⟩
theorem RdT.more {w : World} {B B' : Nat} {A : Option Addr} {n : Nat} {l : List Tk} (h : RdT w B A n l) (hB : B ≤ B') : RdT w B' A n l := by
  refine ⟨h.1, fun hn => ?_⟩
  obtain ⟨g, o, rfl, hg, hc⟩ := h.2 hn
  exact ⟨g, o, rfl, by omega, hc⟩

/-- A row of tokens that the call made itself (e: the element's type). -/
def OwnT (e : TypeId) (w : World) (B : Nat) (v : Value) (l : List Tk) : Prop := w.ownsRow B e 3 v l.length (toksC l)
theorem ne_noneT (v : Value) : v.ownBlock = none ∨ v.ownBlock ≠ none := by cases v.ownBlock <;> simp
theorem OwnT.nil (e : TypeId) (w : World) (B : Nat) : OwnT e w B (.slice none 0 0) [] := World.ownsRow_nil w B e 3
theorem OwnT.lit0 (e : TypeId) (w : World) (B : Nat) (hB : B ≤ w.heap.size) : OwnT e (w.alloc (.cells #[] e)) B (.slice (some ⟨w.heap.size, 0, none⟩) 0 0) [] :=
  ⟨rfl, .inr ⟨w.heap.size, 0, #[], rfl, hB, heap_alloc_new w _, Nat.le_refl _, by unfold maxLen; omega, rfl, rfl⟩⟩
theorem OwnT.rd {e : TypeId} {w : World} {B : Nat} {v : Value} {l : List Tk} (h : OwnT e w B v l) : ∃ A c, v = .slice A l.length c ∧ (A = none → c = 0) ∧ RdT w w.heap.size A l.length l := by
  rcases h.2 with ⟨hv, hn⟩ | ⟨g, cap, cur, hv, hb, hg, rest⟩
  · exact ⟨none, 0, by rw [hv, hn], fun _ => rfl, ⟨rfl, fun h0 => by omega⟩⟩
  · have hlt := (Array.getElem?_eq_some_iff.1 hg).1
    refine ⟨_, _, hv, (fun h => by cases h), ⟨rfl, fun _ => ⟨g, 0, rfl, hlt, fun i x hx j u hu => ?_⟩⟩⟩
    have := World.ownsRow.cells h (g := g) (by rw [hv]; rfl) (i * 3 + j) u (toksC_at l i x hx j u hu)
    rw [Go.WideShapes.add_plain] at this
    exact this
theorem OwnT.slice {e : TypeId} {w : World} {B : Nat} {v : Value} {l : List Tk} (h : OwnT e w B v l) : ∃ A c, v = .slice A l.length c := by
  obtain ⟨A, c, h1, _⟩ := h.rd
  exact ⟨A, c, h1⟩

/-- append(list, t) of a token that was just laid in a block of its own. -/
theorem pushT {ops : Array Oper} {rest : List Oper} {o : Oper} {a : Act} {Q : Exit → Act → World → Prop} (S e : TypeId) (hu : Try.prog.underlying S = some (.slice e))
    (hif : (Try.prog.info? e).map (fun i => (i.zero, i.size, i.bytes)) = some (some (.agg #[.int .u8 0, .int .i64 0, .int .i64 0]), 3, 24))
    (w0 : World) (H : Nat) (hH : w0.heap.size = H) (hgd : o.guard = none) (s x : Operand)
    (ho : o.op = .call { callee := .builtin .append, args := #[s, x], argTypes := #[S, S] })
    (B : Nat) (v : Value) (l : List Tk) (b : Tk) (cs : Array Value) (hs : a.eval s = v) (hx : a.eval x = .slice (some ⟨H, 0, none⟩) 1 1)
    (hown : OwnT e w0 B v l) (hcs : cs.toList = tokC b) (hB : B ≤ w0.heap.size) (hl : l.length ≤ 1000000)
    (h : ∀ v' w', OwnT e w' B v' (l ++ [b]) → w0.grownBy w' v.ownBlock → wpList Try.prog ops Q rest (a.put o.dst v') w') :
    wpList Try.prog ops Q (o :: rest) a (w0.alloc (.cells cs e)) := by
  subst hH
  obtain ⟨i0, hi, hz0, hz1, hz2⟩ := info_parts hif
  have hc1 : tokC b = toksC [b] := by simp [toksC]
  refine wpList_append_own_at _ hgd s x S ho B e i0 _ 3 24 hu hi hz0 hz1 hz2 rfl (by decide) v l.length (toksC l) hs (World.ownsRow.alloc hown _)
    ⟨w0.heap.size, 0, none⟩ 1 1 (toksC [b]) hx (by rw [toksC_length]; rfl) ?_ (toksC_one _) (by unfold maxLen; omega) (by omega) (by simp; omega) ?_
  · rw [← hc1, ← hcs]; exact cells_new w0 cs e
  · intro v' w' h1 h2 _ _
    refine h v' w' ?_ ((World.grownBy_alloc w0 _ _).trans h2)
    unfold OwnT
    rw [List.length_append, toksC_append]
    exact h1

/-- An array of n numbers that may be below 0. -/
def ib (f : Nat → Int) (n : Nat) : Array Value := ((List.range n).map fun i => Value.int .i64 (f i)).toArray
theorem ib_size (f : Nat → Int) (n : Nat) : (ib f n).size = n := by simp [ib]
theorem ib_at (f : Nat → Int) {n i : Nat} (h : i < n) : (ib f n)[i]? = some (.int .i64 (f i)) := by simp [ib, List.getElem?_range h]
def updI (f : Nat → Int) (i : Nat) (v : Int) : Nat → Int := fun j => if j = i then v else f j
theorem ib_set (f : Nat → Int) (n i : Nat) (v : Int) : (ib f n).setIfInBounds i (.int .i64 v) = ib (updI f i v) n := by
  apply Array.ext_getElem?
  intro j
  rcases Nat.lt_or_ge j n with h | h
  · rw [ib_at _ h, Array.getElem?_setIfInBounds]
    by_cases hj : i = j
    · subst hj; rw [if_pos rfl, if_pos (by rw [ib_size]; exact h)]; simp [updI]
    · rw [if_neg hj, ib_at _ h]; simp [updI, Ne.symm hj]
  · rw [Array.getElem?_eq_none (by rw [Array.size_setIfInBounds, ib_size]; exact h), Array.getElem?_eq_none (by rw [ib_size]; exact h)]
theorem ib_congr {f g : Nat → Int} {n : Nat} (h : ∀ i, i < n → f i = g i) : ib f n = ib g n := by
  unfold ib
  congr 1
  apply List.map_congr_left
  intro i hi
  rw [h i (List.mem_range.1 hi)]
theorem Row.ib {w : World} {g n t : Nat} {f : Nat → Int} (h : Row w g (ib f n) t) {i : Nat} (hi : i < n) : w.cell? ⟨g, i, none⟩ = some (.int .i64 (f i)) := by rw [h.cell, ib_at _ hi]
theorem Row.ibSet {w : World} {g n t : Nat} {f : Nat → Int} (h : Row w g (Go.Proofs.Ytnadnokjhinmcaa.ib f n) t) (i : Nat) (v : Int) : Row (w.setCell ⟨g, i, none⟩ (.int .i64 v)) g (Go.Proofs.Ytnadnokjhinmcaa.ib (updI f i v) n) t := by
  rw [← ib_set]; exact h.set i _
/-- A new row of zeros, as a list of cells. -/
theorem zeros_ib (n : Nat) : madeCells #[.int .i64 0] n = ib (fun _ => 0) n := by
  apply Array.toList_inj.1
  rw [toList_madeCells_one]
  simp [ib, List.map_const']
end Go.Proofs.Ytnadnokjhinmcaa
