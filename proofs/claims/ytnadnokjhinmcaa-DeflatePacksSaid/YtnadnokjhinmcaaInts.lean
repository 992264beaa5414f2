
/- Rows of numbers: a slice of ints that reads as a list, one that the call made itself, append on it, and arrays of ints. -/
import Derived.Test.YtnadnokjhinmcaaRowLaw
namespace Go.Proofs.Ytnadnokjhinmcaa
open Go.RowKit

/-- Numbers as cells. -/
def is (l : List Int) : List Value := l.map fun x => Value.int .i64 x
theorem is_length (l : List Int) : (is l).length = l.length := by simp [is]
theorem is_append (a b : List Int) : is (a ++ b) = is a ++ is b := by simp [is]
theorem info3 : (Try.prog.info? 3).map (fun i => (i.zero, i.size, i.bytes)) = some (some (.int .i64 0), 1, 8) := by kernel_rfl
/-- A row of numbers that the call made itself, among the blocks from B on. -/
def OwnI (w : World) (B : Nat) (v : Value) (l : List Int) : Prop := w.ownsRow B 3 1 v l.length (is l)
theorem Rd.atI {w : World} {B : Nat} {A : Option Addr} {n : Nat} {l : List Int} (h : Rd w B A n (is l)) {k : Nat} {x : Int} (hk : l[k]? = some x) :
    ∃ g o, A = some ⟨g, o, none⟩ ∧ g < B ∧ w.cell? ⟨g, o + k, none⟩ = some (.int .i64 x) := by
  have hl := (List.getElem?_eq_some_iff.1 hk).1
  have hn := h.1
  rw [is_length] at hn
  obtain ⟨g, o, rfl, hg, hc⟩ := h.2 (by omega)
  exact ⟨g, o, rfl, hg, hc k _ (by simp [is, hk])⟩
theorem OwnI.rd {w : World} {B : Nat} {A : Option Addr} {n c : Nat} {l : List Int} (h : OwnI w B (.slice A n c) l) : n = l.length ∧ Rd w w.heap.size A n (is l) := by
  rcases h.2 with ⟨hv, hn⟩ | ⟨g, cap, cur, hv, hb, hg, rest⟩
  · injection hv with h1 h2 h3
    subst h2
    refine ⟨hn.symm, ?_, fun h0 => by omega⟩
    rw [is_length]; exact hn
  · injection hv with h1 h2 h3
    subst h1 h2
    refine ⟨rfl, by rw [is_length], fun _ => ⟨g, 0, rfl, (Array.getElem?_eq_some_iff.1 hg).1, fun j u hu => ?_⟩⟩
    have := World.ownsRow.cells h (g := g) rfl j u hu
    rw [Go.WideShapes.add_plain] at this
    exact this

theorem OwnI.slice {w : World} {B : Nat} {v : Value} {l : List Int} (h : OwnI w B v l) : ∃ A c, v = .slice A l.length c := by
  rcases h.2 with ⟨hv, hn⟩ | ⟨g, cap, cur, hv, _⟩
  · exact ⟨none, 0, by rw [hv, hn]⟩
  · exact ⟨_, _, hv⟩

theorem oneI (l : List Int) : ∀ u ∈ is l, u.oneCell' = true := by
  intro u hu
  obtain ⟨b, _, rfl⟩ := List.mem_map.1 hu
  rfl

/-- append(out, b..) of bytes that were just laid in a block of their own. -/
theorem pushI {ops : Array Oper} {rest : List Oper} {o : Oper} {a : Act} {Q : Exit → Act → World → Prop} (w0 : World) (hgd : o.guard = none) (s x : Operand)
    (ho : o.op = .call { callee := .builtin .append, args := #[s, x], argTypes := #[46, 46] })
    (B : Nat) (v : Value) (l bs : List Int) (cs : Array Value) (m : Nat) (hs : a.eval s = v) (hx : a.eval x = .slice (some ⟨w0.heap.size, 0, none⟩) m m)
    (hown : OwnI w0 B v l) (hcs : cs.toList = is bs) (hm : bs.length = m) (hB : B ≤ w0.heap.size) (hl : l.length + m ≤ 1000000)
    (h : ∀ v' w', OwnI w' B v' (l ++ bs) → w0.grownBy w' v.ownBlock → Fresh w0 v v' → wpList Try.prog ops Q rest (a.put o.dst v') w') :
    wpList Try.prog ops Q (o :: rest) a (w0.alloc (.cells cs 3)) := by
  obtain ⟨i0, hi, hz0, hz1, hz2⟩ := info_parts info3
  refine wpList_append_own_at _ hgd s x 46 ho B 3 i0 (.int .i64 0) 1 8 Try.underlying46 hi hz0 hz1 hz2 rfl (by decide) v l.length (is l) hs (hown.alloc _)
    ⟨w0.heap.size, 0, none⟩ m m (is bs) hx (by rw [is_length, hm]; omega) ?_ (oneI bs) (by unfold maxLen; omega) (by omega) (by simp; omega) ?_
  · rw [← hcs]; exact cells_new w0 cs 3
  · intro v' w' h1 h2 _ h4
    refine h v' w' ?_ ((World.grownBy_alloc w0 _ _).trans h2) (Fresh.of h4 (by simp))
    unfold OwnI
    rw [List.length_append, hm, is_append]
    exact h1

/-- The same in a region that draws its order. -/
theorem stepI {ops : Array Oper} {o : Oper} {a : Act} {K : Act → World → Prop} {Q : Exit → Act → World → Prop} {E : Prop} (w0 : World) (hgd : o.guard = none) (s x : Operand)
    (ho : o.op = .call { callee := .builtin .append, args := #[s, x], argTypes := #[46, 46] })
    (B : Nat) (v : Value) (l bs : List Int) (cs : Array Value) (m : Nat) (hs : a.eval s = v) (hx : a.eval x = .slice (some ⟨w0.heap.size, 0, none⟩) m m)
    (hown : OwnI w0 B v l) (hcs : cs.toList = is bs) (hm : bs.length = m) (hB : B ≤ w0.heap.size) (hl : l.length + m ≤ 1000000)
    (h : ∀ v' w', OwnI w' B v' (l ++ bs) → w0.grownBy w' v.ownBlock → K (a.put o.dst v') w') :
    if Region.wanted o (yielded ops a.tmps) = true then Oper.wp Try.prog o a (w0.alloc (.cells cs 3)).drew K Q else E := by
  have hw : Region.wanted o (yielded ops a.tmps) = true := by simp [Region.wanted, hgd]
  rw [if_pos hw]
  obtain ⟨i0, hi, hz0, hz1, hz2⟩ := info_parts info3
  obtain ⟨v', w', hr, h2, h3, _, _⟩ := run_append_own_at (P := Try.prog) (w0.alloc (.cells cs 3)).drew B 46 o.type 3 i0 (.int .i64 0) 1 8 Try.underlying46 hi hz0 hz1 hz2 rfl (by decide) v l.length (is l) (hown.alloc _)
    ⟨w0.heap.size, 0, none⟩ m m (is bs) (by rw [is_length, hm]; omega) (by rw [← hcs]; exact cells_new w0 cs 3) (oneI bs) (by unfold maxLen; omega) (by omega) (by show B ≤ (w0.alloc _).heap.size; simp; omega)
  unfold Oper.wp execOp
  simp only [ho, resolve, invoke, builtin, Sem.run_bind, Sem.run_pure, Result.andThen_ok, List.map_toArray, List.map_cons, List.map_nil, hs, hx, hr]
  refine h v' w' ?_ ⟨h3.os, h3.tape, h3.output, Nat.le_trans (by simp) h3.size, fun k hk hne => (h3.block k (by show k < (w0.alloc _).heap.size; simp; omega) hne).trans (Below.heap_alloc w0 _ k hk)⟩
  unfold OwnI
  rw [List.length_append, hm, is_append]
  exact h2

set_option maxRecDepth 20000 in
/-- append(out, xs...) of bytes that lie anywhere, or nowhere. -/
theorem catI {ops : Array Oper} {rest : List Oper} {o : Oper} {a : Act} {Q : Exit → Act → World → Prop} (w0 : World) (hgd : o.guard = none) (s x : Operand)
    (ho : o.op = .call { callee := .builtin .append, args := #[s, x], argTypes := #[46, 46] })
    (B C : Nat) (v : Value) (l bs : List Int) (A : Option Addr) (m c : Nat) (hs : a.eval s = v) (hx : a.eval x = .slice A m c)
    (hown : OwnI w0 B v l) (hr : Rd w0 C A m (is bs)) (hA : A = none → c = 0) (hB : B ≤ w0.heap.size) (hl : l.length + m ≤ 1000000)
    (h : ∀ v' w', OwnI w' B v' (l ++ bs) → w0.grownBy w' v.ownBlock → Fresh w0 v v' → wpList Try.prog ops Q rest (a.put o.dst v') w') :
    wpList Try.prog ops Q (o :: rest) a w0 := by
  obtain ⟨i0, hi, hz0, hz1, hz2⟩ := info_parts info3
  have hm : bs.length = m := by have := hr.1; rwa [is_length] at this
  rcases A with _ | ad
  · have h0 : m = 0 := by
      rcases Nat.eq_zero_or_pos m with h0 | h0
      · exact h0
      · obtain ⟨g, o, he, _⟩ := hr.2 h0; cases he
    subst h0
    have : bs = [] := List.eq_nil_of_length_eq_zero hm
    subst this
    refine wpList_append_own_none hgd s x 46 ho B 3 i0 1 Try.underlying46 hi v l.length (is l) hs hown (by rw [hx, hA rfl]) ?_
    exact h v w0 (by simpa using hown) (World.grownBy.refl _ _) (Fresh.same _ _)
  · refine wpList_append_own_at _ hgd s x 46 ho B 3 i0 (.int .i64 0) 1 8 Try.underlying46 hi hz0 hz1 hz2 rfl (by decide) v l.length (is l) hs hown
      ad m c (is bs) hx (by rw [is_length, hm]; omega) ?_ (oneI bs) (by unfold maxLen; omega) (by omega) hB ?_
    · intro j u hu
      have h0 : 0 < m := by
        rcases Nat.eq_zero_or_pos m with h0 | h0
        · subst h0
          have : bs = [] := List.eq_nil_of_length_eq_zero hm
          subst this
          simp [is] at hu
        · exact h0
      obtain ⟨g, o, he, _, hc⟩ := hr.2 h0
      injection he with he
      subst he
      rw [Go.WideShapes.add_plain]
      exact hc j u hu
    · intro v' w' h1 h2 _ h4
      refine h v' w' ?_ h2 (Fresh.of h4 (Nat.le_refl _))
      unfold OwnI
      rw [List.length_append, hm, is_append]
      exact h1

theorem OwnI.lit (w : World) (cs : Array Value) (l : List Int) (n : Nat) (h : cs.toList = is l) (hn : l.length = n) (hm : n ≤ 1000000) :
    OwnI (w.alloc (.cells cs 3)) w.heap.size (.slice (some ⟨w.heap.size, 0, none⟩) n n) l := by
  have hs : cs.size = n := by rw [← Array.length_toList, h, is_length, hn]
  refine ⟨by rw [is_length]; omega, .inr ⟨w.heap.size, n, cs, by rw [hn], Nat.le_refl _, heap_alloc_new w _, by omega, by unfold maxLen; omega, by omega, ?_⟩⟩
  rw [h, List.take_of_length_le (by rw [is_length]; omega)]

theorem OwnI.nil (w : World) (B : Nat) : OwnI w B (.slice none 0 0) [] := World.ownsRow_nil w B 3 1

theorem OwnI.grown {w w' : World} {B : Nat} {a : World} {v : Value} {l : List Int} (h : OwnI w B v l) (hg : w.grownBy w' v.ownBlock) (hb : Below B a w) (hB : B ≤ w.heap.size) : Below B a w' :=
  hb.grown hg hB fun k hk => (World.ownsRow.lt h k hk).1

/-- An array of n numbers. -/
def ia (f : Nat → Nat) (n : Nat) : Array Value := ((List.range n).map fun i => Value.int .i64 (f i : Int)).toArray
theorem ia_size (f : Nat → Nat) (n : Nat) : (ia f n).size = n := by simp [ia]
theorem ia_at (f : Nat → Nat) {n i : Nat} (h : i < n) : (ia f n)[i]? = some (.int .i64 (f i : Int)) := by simp [ia, List.getElem?_range h]
theorem ia_one (f : Nat → Nat) (n : Nat) : (ia f n).all (·.oneCell') = true := by
  rw [Array.all_eq_true_iff_forall_mem]
  intro u hu
  simp only [ia, List.mem_toArray, List.mem_map] at hu
  obtain ⟨i, _, rfl⟩ := hu
  rfl
def upd (f : Nat → Nat) (i v : Nat) : Nat → Nat := fun j => if j = i then v else f j
theorem upd_same (f : Nat → Nat) (i v : Nat) : upd f i v i = v := by simp [upd]
theorem upd_ne (f : Nat → Nat) {i j : Nat} (v : Nat) (h : j ≠ i) : upd f i v j = f j := by simp [upd, h]
theorem ia_set (f : Nat → Nat) (n i v : Nat) : (ia f n).setIfInBounds i (.int .i64 (v : Int)) = ia (upd f i v) n := by
  apply Array.ext_getElem?
  intro j
  rcases Nat.lt_or_ge j n with h | h
  · rw [ia_at _ h, Array.getElem?_setIfInBounds]
    by_cases hj : i = j
    · subst hj; rw [if_pos rfl, if_pos (by rw [ia_size]; exact h), upd_same]
    · rw [if_neg hj, ia_at _ h, upd_ne _ _ (Ne.symm hj)]
  · rw [Array.getElem?_eq_none (by rw [Array.size_setIfInBounds, ia_size]; exact h), Array.getElem?_eq_none (by rw [ia_size]; exact h)]
theorem ia_congr {f g : Nat → Nat} {n : Nat} (h : ∀ i, i < n → f i = g i) : ia f n = ia g n := by
  unfold ia
  congr 1
  apply List.map_congr_left
  intro i hi
  rw [h i (List.mem_range.1 hi)]
/-- Block g holds the numbers f. -/
theorem Row.ia {w : World} {g n t : Nat} {f : Nat → Nat} (h : Row w g (ia f n) t) {i : Nat} (hi : i < n) : w.cell? ⟨g, i, none⟩ = some (.int .i64 (f i : Int)) := by rw [h.cell, ia_at _ hi]
theorem Row.iaSet {w : World} {g n t : Nat} {f : Nat → Nat} (h : Row w g (Go.Proofs.Ytnadnokjhinmcaa.ia f n) t) (i v : Nat) (z : Int) (hz : z = (v : Int)) : Row (w.setCell ⟨g, i, none⟩ (.int .i64 z)) g (Go.Proofs.Ytnadnokjhinmcaa.ia (upd f i v) n) t := by
  subst hz; rw [← ia_set]; exact h.set i _
theorem info114 : (Try.prog.info? 102).map (fun i => (i.zero, i.size)) = some (some (.agg (ia (fun _ => 0) 16)), 16) := by kernel_rfl
theorem size114 : (Try.prog.info? 102).map (·.size) = some 16 := by kernel_rfl
theorem info116 : (Try.prog.info? 106).map (fun i => (i.zero, i.size)) = some (some (.agg (ia (fun _ => 0) 17)), 17) := by kernel_rfl
theorem size116 : (Try.prog.info? 106).map (·.size) = some 17 := by kernel_rfl
theorem built114 : Try.prog.built 102 [] = some (ia (fun _ => 0) 16) := by kernel_rfl
theorem built116 : Try.prog.built 106 [] = some (ia (fun _ => 0) 17) := by kernel_rfl
/-- A new row of zeros, as a list of cells. -/
theorem zeros_ia (n : Nat) : madeCells #[.int .i64 0] n = ia (fun _ => 0) n := by
  apply Array.toList_inj.1
  rw [toList_madeCells_one]
  simp [ia, List.map_const']
theorem Row.rdI {w : World} {g n t : Nat} {f : Nat → Nat} (h : Row w g (Go.Proofs.Ytnadnokjhinmcaa.ia f n) t) {B : Nat} (hB : g < B) : Rd w B (some ⟨g, 0, none⟩) n (Go.Proofs.Ytnadnokjhinmcaa.ia f n).toList := by
  refine ⟨by simp [ia_size], fun _ => ⟨g, 0, rfl, hB, fun j u hu => ?_⟩⟩
  rw [h.cell, Nat.zero_add]
  simpa using hu

section
variable {P : Program} {ops : Array Oper} {rest : List Oper} {o : Oper} {a : Act} {Q : Exit → Act → World → Prop}
/-- A whole row loaded by an operation under a guard. -/
theorem load_row_w {w : World} (hw : Region.wanted o (yielded ops a.tmps) = true) (ty : TypeId) (x : Operand) (ho : o.op = .load ty x) (g : Nat) (hx : a.eval x = .pointer (some ⟨g, 0, none⟩)) (t : TypeId) (cs : Array Value) (d : TypeDesc)
    (hg : Row w g cs t) (hu : P.underlying ty = some d) (hd : (match d with | .struct _ | .array _ _ => true | _ => false) = true) (n : Nat) (hi : (P.info? ty).map (·.size) = some n) (hn : cs.size = n)
    (h : RowKit.Hid True → wpList P ops Q rest (a.put o.dst (.agg cs)) w) : wpList P ops Q (o :: rest) a w := by
  refine wpList_step fun K hK => ?_
  rw [if_pos hw]
  unfold Oper.wp execOp
  simp only [ho, hx, Instr.loadAt, Instr.sureAddr, Sem.run_bind, Sem.run_pure, Result.andThen_ok, run_loadVar_row w g t ty cs (0, 0) d hg hu hd (by rw [hi, hn])]
  exact hK _ _ (h (Lib.hid trivial))
end
end Go.Proofs.Ytnadnokjhinmcaa
