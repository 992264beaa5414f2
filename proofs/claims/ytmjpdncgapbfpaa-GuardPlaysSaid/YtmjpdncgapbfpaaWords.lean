/- Rows of notes; the player in memory; what a play leaves alone. -/
import Derived.Test.YtmjpdncgapbfpaaSkip
import Derived.WalkKit
import Derived.Maps.AppendAt
import Derived.Deep.AppendLies
import Derived.Laws.AppendOwnNone
import Derived.Deep.RegionLaw
import Derived.RegionTactic
import Derived.Deep.QuietTactic
import Derived.BigQuiet
import Derived.Deep.RegionWith
import Derived.BigRegion
import Derived.Deep.Cut
namespace Go.Proofs.Ytmjpdncgapbfpaa
open Go.RowKit

def ntC (n : Nt) : List Value := [.bool n.tr, .string n.tx, .int .i64 n.c, .string n.w, .bool n.is]
def ntsC : List Nt → List Value
  | [] => []
  | n :: r => ntC n ++ ntsC r
theorem ntsC_append (a b : List Nt) : ntsC (a ++ b) = ntsC a ++ ntsC b := by
  induction a with
  | nil => rfl
  | cons x a ih => simp [ntsC, ih]
theorem ntsC_length (a : List Nt) : (ntsC a).length = a.length * 5 := by
  induction a with
  | nil => rfl
  | cons x a ih => simp [ntsC, ntC, ih]; omega
theorem ntsC_one (l : List Nt) : ∀ u ∈ ntsC l, u.oneCell' = true := by
  induction l with
  | nil => intro u hu; cases hu
  | cons x a ih =>
    intro u hu
    rcases List.mem_append.1 hu with h | h
    · simp only [ntC, List.mem_cons, List.not_mem_nil, or_false] at h
      rcases h with rfl | rfl | rfl | rfl | rfl <;> rfl
    · exact ih u h
theorem ntsC_at : ∀ (l : List Nt) (i : Nat) (x : Nt), l[i]? = some x → ∀ j u, (ntC x)[j]? = some u → (ntsC l)[i * 5 + j]? = some u
  | y :: r, 0, x, h, j, u, hu => by
    injection h with h
    subst h
    rw [ntsC, List.getElem?_append_left (by have := (List.getElem?_eq_some_iff.1 hu).1; simpa using this)]
    simpa using hu
  | y :: r, i + 1, x, h, j, u, hu => by
    rw [ntsC, List.getElem?_append_right (by simp [ntC]; omega)]
    have := ntsC_at r i x (by simpa using h) j u hu
    rw [show (i + 1) * 5 + j - (ntC y).length = i * 5 + j by simp [ntC]; omega]
    exact this

theorem info40 : (Try.prog.info? 40).map (fun i => (i.zero, i.size, i.bytes)) = some (some (.agg #[.bool false, .string ⟨#[]⟩, .int .i64 0, .string ⟨#[]⟩, .bool false]), 5, 56) := by kernel_rfl

def OwnN (w : World) (B : Nat) (v : Value) (l : List Nt) : Prop := w.ownsRow B 40 5 v l.length (ntsC l)

theorem OwnN.slice {w : World} {B : Nat} {v : Value} {l : List Nt} (h : OwnN w B v l) : ∃ A c, v = .slice A l.length c := by
  rcases h.2 with ⟨hv, hn⟩ | ⟨g, cap, cur, hv, _⟩
  · exact ⟨none, 0, by rw [hv, hn]⟩
  · exact ⟨_, _, hv⟩

theorem OwnN.at_ {w : World} {B : Nat} {v : Value} {l : List Nt} (h : OwnN w B v l) {i : Nat} {x : Nt} (hx : l[i]? = some x) :
    ∃ g c, v = .slice (some ⟨g, 0, none⟩) l.length c ∧ B ≤ g ∧ ∀ j u, (ntC x)[j]? = some u → w.cell? ⟨g, i * 5 + j, none⟩ = some u := by
  have hi := (List.getElem?_eq_some_iff.1 hx).1
  rcases h.2 with ⟨hv, hn⟩ | ⟨g, cap, cur, hv, hb, hg, rest⟩
  · omega
  · subst hv
    refine ⟨g, cap, rfl, hb, fun j u hu => ?_⟩
    have := World.ownsRow.cells h (g := g) rfl (i * 5 + j) u (ntsC_at l i x hx j u hu)
    rw [Go.WideShapes.add_plain] at this
    simpa using this

theorem cells_new40 (w : World) (cs : Array Value) (t : TypeId) : ∀ j u, cs.toList[j]? = some u → (w.alloc (.cells cs t)).cell? ((⟨w.heap.size, 0, none⟩ : Addr).add j) = some u :=
  World.news_of_block (fr := (0, 0)) (by exact heap_alloc_new w _)

/-- append(notes, n) of a note that was just laid in a block of its own. -/
theorem pushN {ops : Array Oper} {rest : List Oper} {o : Oper} {a : Act} {Q : Exit → Act → World → Prop} (w0 : World) (hgd : o.guard = none) (s x : Operand)
    (ho : o.op = .call { callee := .builtin .append, args := #[s, x], argTypes := #[28, 28] })
    (B : Nat) (v : Value) (l : List Nt) (b : Nt) (cs : Array Value) (hs : a.eval s = v) (hx : a.eval x = .slice (some ⟨w0.heap.size, 0, none⟩) 1 1)
    (hown : OwnN w0 B v l) (hcs : cs.toList = ntC b) (hB : B ≤ w0.heap.size) (hl : l.length ≤ 10000)
    (h : ∀ v' w', OwnN w' B v' (l ++ [b]) → w0.grownBy w' v.ownBlock → (v'.ownBlock = v.ownBlock ∨ v'.ownBlock = some (w0.heap.size + 1)) → wpList Try.prog ops Q rest (a.put o.dst v') w') :
    wpList Try.prog ops Q (o :: rest) a (w0.alloc (.cells cs 40)) := by
  obtain ⟨i0, hi, hz0, hz1, hz2⟩ := info_parts info40
  have hc1 : ntC b = ntsC [b] := by simp [ntsC]
  refine wpList_append_own_at _ hgd s x 28 ho B 40 i0 _ 5 56 Try.underlying28 hi hz0 hz1 hz2 rfl (by decide) v l.length (ntsC l) hs (World.ownsRow.alloc hown _)
    ⟨w0.heap.size, 0, none⟩ 1 1 (ntsC [b]) hx (by rw [ntsC_length]; rfl) ?_ (ntsC_one _) (by unfold maxLen; omega) (by omega) (by simp; omega) ?_
  · rw [← hc1, ← hcs]; exact cells_new40 w0 cs 40
  · intro v' w' h1 h2 _ h4
    refine h v' w' ?_ ((World.grownBy_alloc w0 _ _).trans h2) (by simpa using h4)
    unfold OwnN
    rw [List.length_append, ntsC_append]
    exact h1

/-- The same in a region that draws its order. -/
theorem stepN {ops : Array Oper} {o : Oper} {a : Act} {K : Act → World → Prop} {Q : Exit → Act → World → Prop} {E : Prop} (w0 : World) (hgd : o.guard = none) (s x : Operand)
    (ho : o.op = .call { callee := .builtin .append, args := #[s, x], argTypes := #[28, 28] })
    (B : Nat) (v : Value) (l : List Nt) (b : Nt) (cs : Array Value) (hs : a.eval s = v) (hx : a.eval x = .slice (some ⟨w0.heap.size, 0, none⟩) 1 1)
    (hown : OwnN w0 B v l) (hcs : cs.toList = ntC b) (hB : B ≤ w0.heap.size) (hl : l.length ≤ 10000)
    (h : ∀ v' w', OwnN w' B v' (l ++ [b]) → w0.grownBy w' v.ownBlock → (v'.ownBlock = v.ownBlock ∨ v'.ownBlock = some (w0.heap.size + 1)) → K (a.put o.dst v') w') :
    if Region.wanted o (yielded ops a.tmps) = true then Oper.wp Try.prog o a (w0.alloc (.cells cs 40)).drew K Q else E := by
  have hw : Region.wanted o (yielded ops a.tmps) = true := by simp [Region.wanted, hgd]
  rw [if_pos hw]
  obtain ⟨i0, hi, hz0, hz1, hz2⟩ := info_parts info40
  have hc1 : ntC b = ntsC [b] := by simp [ntsC]
  obtain ⟨v', w', hr, h2, h3, _, h5⟩ := run_append_own_at (P := Try.prog) (w0.alloc (.cells cs 40)).drew B 28 o.type 40 i0 _ 5 56 Try.underlying28 hi hz0 hz1 hz2 rfl (by decide) v l.length (ntsC l) (World.ownsRow.alloc hown _)
    ⟨w0.heap.size, 0, none⟩ 1 1 (ntsC [b]) (by rw [ntsC_length]; rfl) (by rw [← hc1, ← hcs]; exact cells_new40 w0 cs 40) (ntsC_one _) (by unfold maxLen; omega) (by omega) (by show B ≤ (w0.alloc _).heap.size; simp; omega)
  unfold Oper.wp execOp
  simp only [ho, resolve, invoke, builtin, Sem.run_bind, Sem.run_pure, Result.andThen_ok, List.map_toArray, List.map_cons, List.map_nil, hs, hx, hr]
  refine h v' w' ?_ ⟨h3.os, h3.tape, h3.output, Nat.le_trans (by simp) h3.size, fun k hk hne => (h3.block k (by show k < (w0.alloc _).heap.size; simp; omega) hne).trans (Below.heap_alloc w0 _ k hk)⟩ ?_
  · unfold OwnN
    rw [List.length_append, ntsC_append]
    exact h2
  · rcases h5 with h5 | h5
    · exact .inl h5
    · refine .inr ?_
      rw [h5]
      show some (w0.alloc _).heap.size = _
      simp

/-- append(notes, more...), more a row of the calls' own. -/
theorem catN {ops : Array Oper} {rest : List Oper} {o : Oper} {a : Act} {Q : Exit → Act → World → Prop} (w0 : World) (hgd : o.guard = none) (s x : Operand)
    (ho : o.op = .call { callee := .builtin .append, args := #[s, x], argTypes := #[28, 28] })
    (B B' : Nat) (v u : Value) (l m : List Nt) (hs : a.eval s = v) (hx : a.eval x = u)
    (hown : OwnN w0 B v l) (hm : OwnN w0 B' u m) (hB : B ≤ w0.heap.size) (hl : l.length + m.length ≤ 10000)
    (h : ∀ v' w', OwnN w' B v' (l ++ m) → w0.grownBy w' v.ownBlock → (v'.ownBlock = v.ownBlock ∨ v'.ownBlock = some w0.heap.size) → wpList Try.prog ops Q rest (a.put o.dst v') w') :
    wpList Try.prog ops Q (o :: rest) a w0 := by
  obtain ⟨i0, hi, hz0, hz1, hz2⟩ := info_parts info40
  rcases hm.2 with ⟨hu, hn⟩ | ⟨g, cap, cur, hu, _⟩
  · have : m = [] := List.eq_nil_of_length_eq_zero hn
    subst this
    refine wpList_append_own_none hgd s x 28 ho B 40 i0 5 Try.underlying28 hi v l.length (ntsC l) hs hown (by rw [hx, hu]) ?_
    exact h v w0 (by simpa using hown) (World.grownBy.refl _ _) (.inl rfl)
  · subst hu
    refine wpList_append_own_at _ hgd s x 28 ho B 40 i0 _ 5 56 Try.underlying28 hi hz0 hz1 hz2 rfl (by decide) v l.length (ntsC l) hs hown
      ⟨g, 0, none⟩ m.length cap (ntsC m) hx (ntsC_length m) (World.ownsRow.cells hm (g := g) rfl) (ntsC_one _) (by unfold maxLen; omega) (by omega) hB ?_
    intro v' w' h1 h2 _ h4
    refine h v' w' ?_ h2 h4
    unfold OwnN
    rw [List.length_append, ntsC_append]
    exact h1

/-- What a play leaves alone: all that was there but the player and its notes. -/
structure Fr (p : Nat) (nv : Value) (w w' : World) : Prop where
  os : w'.os = w.os
  tape : w'.tape = w.tape
  output : w'.output = w.output
  size : w.heap.size ≤ w'.heap.size
  block : ∀ k, k < w.heap.size → k ≠ p → some k ≠ nv.ownBlock → w'.heap[k]? = w.heap[k]?

/-- The notes' row stays, or lies in new memory. -/
def Moved (nv nv' : Value) (w : World) : Prop := nv'.ownBlock = nv.ownBlock ∨ ∃ b, nv'.ownBlock = some b ∧ w.heap.size ≤ b

theorem Fr.refl (p : Nat) (nv : Value) (w : World) : Fr p nv w w := ⟨rfl, rfl, rfl, Nat.le_refl _, fun _ _ _ _ => rfl⟩
theorem Fr.trans {p : Nat} {nv nv' : Value} {a b c : World} (h : Fr p nv a b) (hm : Moved nv nv' a) (k : Fr p nv' b c) : Fr p nv a c := by
  refine ⟨k.os.trans h.os, k.tape.trans h.tape, k.output.trans h.output, Nat.le_trans h.size k.size, fun i hi hp hn => ?_⟩
  refine (k.block i (Nat.lt_of_lt_of_le hi h.size) hp ?_).trans (h.block i hi hp hn)
  rcases hm with e | ⟨b', e, hb⟩
  · rw [e]; exact hn
  · rw [e]; intro he; injection he with he; omega
theorem Moved.refl (nv : Value) (w : World) : Moved nv nv w := .inl rfl
theorem Moved.trans {nv nv' nv'' : Value} {a b : World} (h : Moved nv nv' a) (hs : a.heap.size ≤ b.heap.size) (k : Moved nv' nv'' b) : Moved nv nv'' a := by
  rcases k with e | ⟨b', e, hb⟩
  · rcases h with h | ⟨b'', h, h2⟩
    · exact .inl (e.trans h)
    · exact .inr ⟨b'', e.trans h, h2⟩
  · exact .inr ⟨b', e, by omega⟩
theorem Fr.of_below {p : Nat} {nv : Value} {w w' : World} (h : Below w.heap.size w w') : Fr p nv w w' := ⟨h.os, h.tape, h.output, h.size, fun k hk _ _ => h.block k hk⟩
theorem Fr.of_grown {p : Nat} {nv : Value} {w w' : World} (h : w.grownBy w' nv.ownBlock) : Fr p nv w w' := ⟨h.os, h.tape, h.output, h.size, fun k hk _ hn => h.block k hk hn⟩
theorem Fr.setP {p : Nat} {nv : Value} {a w : World} (h : Fr p nv a w) (i : Nat) (u : Value) : Fr p nv a (w.setCell ⟨p, i, none⟩ u) :=
  ⟨h.os, h.tape, h.output, by simpa [World.setCell] using h.size, fun k hk hp hn => (Below.heap_setCell w _ u k hp).trans (h.block k hk hp hn)⟩
theorem Fr.cell {p : Nat} {nv : Value} {w w' : World} (h : Fr p nv w w') {b o : Nat} (hb : b < w.heap.size) (hp : b ≠ p) (hn : some b ≠ nv.ownBlock) : w'.cell? ⟨b, o, none⟩ = w.cell? ⟨b, o, none⟩ :=
  World.cell?_of_block (w := w) (h.block b hb hp hn)
theorem Fr.frozen {p : Nat} {nv : Value} {w w' : World} (h : Fr p nv w w') {b o : Nat} (hb : b < w.heap.size) (hp : b ≠ p) (hn : some b ≠ nv.ownBlock) : w'.frozen? ⟨b, o, none⟩ = w.frozen? ⟨b, o, none⟩ :=
  World.frozen?_of_block (w := w) (h.block b hb hp hn)

/-- The player in memory. -/
structure PS (w : World) (B p : Nat) (A : Option Addr) (n c : Nat) (ops : List Sc) (i : Nat) (nv : Value) (N : List Nt) : Prop where
  cO : w.cell? ⟨p, 0, none⟩ = some (.slice A n c)
  cA : w.cell? ⟨p, 1, none⟩ = some (.int .i64 (i : Int))
  cN : w.cell? ⟨p, 2, none⟩ = some nv
  f1 : w.frozen? ⟨p, 1, none⟩ = false
  f2 : w.frozen? ⟨p, 2, none⟩ = false
  own : OwnN w B nv N
  rd : RdO w B A n ops
  lt : p < B
  hB : B ≤ w.heap.size
  ne : ∀ g o, A = some ⟨g, o, none⟩ → g ≠ p

theorem OwnN.lt {w : World} {B : Nat} {v : Value} {l : List Nt} (h : OwnN w B v l) {k : Nat} (hk : v.ownBlock = some k) : B ≤ k ∧ k < w.heap.size := World.ownsRow.lt h k hk

end Go.Proofs.Ytmjpdncgapbfpaa
