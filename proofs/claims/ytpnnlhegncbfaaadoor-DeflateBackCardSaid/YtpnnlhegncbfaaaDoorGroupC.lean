
/- Rows of numbers: a slice of ints that reads as a list, one that the call made itself, append on it, and arrays of ints. -/

/- Rows of tokens: a slice of tokens that reads as a list, one that the call made itself, append on it. -/

/- Contract of deflate's matched. -/
import Derived.Test.YtpnnlhegncbfaaaDoorGroupB
import Derived.Test.YtpnnlhegncbfaaaDoorGroupA
import Derived.BigQuiet
namespace Go.Proofs.YtpnnlhegncbfaaaDoor
set_option maxRecDepth 20000
open Go.RowKit

/-- Numbers as cells. -/
def is (l : List Int) : List Value := l.map fun x => Value.int .i64 x
theorem is_length (l : List Int) : (is l).length = l.length := by simp [is]
theorem is_append (a b : List Int) : is (a ++ b) = is a ++ is b := by simp [is]
theorem info3 : (Tryd.prog.info? 3).map (fun i => (i.zero, i.size, i.bytes)) = some (some (.int .i64 0), 1, 8) := by kernel_rfl
/-- A row of numbers that the call made itself, among the blocks from B on. -/
def OwnI (w : World) (B : Nat) (v : Value) (l : List Int) : Prop := w.ownsRow B 3 1 v l.length (is l)
theorem Rd.atI {w : World} {B : Nat} {A : Option Addr} {n : Nat} {l : List Int} (h : Rd w B A n (is l)) {k : Nat} {x : Int} (hk : l[k]? = some x) :
    ∃ g o, A = some ⟨g, o, none⟩ ∧ g < B ∧ w.cell? ⟨g, o + k, none⟩ = some (.int .i64 x) := by
  have hl := (List.getElem?_eq_some_iff.1 hk).1
  have hn := h.1
  rw [is_length] at hn
  obtain ⟨g, o, rfl, hg, hc⟩ := h.2 (by omega)
  exact ⟨g, o, rfl, hg, hc k _ (by simp [is, hk])⟩
theorem OwnI.rd {w : World} {B : Nat} {A : Option Addr} {n c : Nat} {l : List Int} (h : OwnI w B (.slice A n c) l) : n = l.length ∧ Rd w w.heap.size A n (is l) := by
  rcases h.2 with ⟨hv, hn⟩ | ⟨g, cap, cur, hv, hb, hg, rest⟩
  · injection hv with h1 h2 h3
    subst h2
    refine ⟨hn.symm, ?_, fun h0 => by omega⟩
    rw [is_length]; exact hn
  · injection hv with h1 h2 h3
    subst h1 h2
    refine ⟨rfl, by rw [is_length], fun _ => ⟨g, 0, rfl, (Array.getElem?_eq_some_iff.1 hg).1, fun j u hu => ?_⟩⟩
    have := World.ownsRow.cells h (g := g) rfl j u hu
    rw [Go.WideShapes.add_plain] at this
    exact this

theorem OwnI.slice {w : World} {B : Nat} {v : Value} {l : List Int} (h : OwnI w B v l) : ∃ A c, v = .slice A l.length c := by
  rcases h.2 with ⟨hv, hn⟩ | ⟨g, cap, cur, hv, _⟩
  · exact ⟨none, 0, by rw [hv, hn]⟩
  · exact ⟨_, _, hv⟩

theorem oneI (l : List Int) : ∀ u ∈ is l, u.oneCell' = true := by
  intro u hu
  obtain ⟨b, _, rfl⟩ := List.mem_map.1 hu
  rfl

/-- append(out, b..) of bytes that were just laid in a block of their own. -/
theorem pushI {ops : Array Oper} {rest : List Oper} {o : Oper} {a : Act} {Q : Exit → Act → World → Prop} (w0 : World) (hgd : o.guard = none) (s x : Operand)
    (ho : o.op = .call { callee := .builtin .append, args := #[s, x], argTypes := #[46, 46] })
    (B : Nat) (v : Value) (l bs : List Int) (cs : Array Value) (m : Nat) (hs : a.eval s = v) (hx : a.eval x = .slice (some ⟨w0.heap.size, 0, none⟩) m m)
    (hown : OwnI w0 B v l) (hcs : cs.toList = is bs) (hm : bs.length = m) (hB : B ≤ w0.heap.size) (hl : l.length + m ≤ 1000000)
    (h : ∀ v' w', OwnI w' B v' (l ++ bs) → w0.grownBy w' v.ownBlock → Fresh w0 v v' → wpList Tryd.prog ops Q rest (a.put o.dst v') w') :
    wpList Tryd.prog ops Q (o :: rest) a (w0.alloc (.cells cs 3)) := by
  obtain ⟨i0, hi, hz0, hz1, hz2⟩ := info_parts info3
  refine wpList_append_own_at _ hgd s x 46 ho B 3 i0 (.int .i64 0) 1 8 Tryd.underlying46 hi hz0 hz1 hz2 rfl (by decide) v l.length (is l) hs (hown.alloc _)
    ⟨w0.heap.size, 0, none⟩ m m (is bs) hx (by rw [is_length, hm]; omega) ?_ (oneI bs) (by unfold maxLen; omega) (by omega) (by simp; omega) ?_
  · rw [← hcs]; exact cells_new w0 cs 3
  · intro v' w' h1 h2 _ h4
    refine h v' w' ?_ ((World.grownBy_alloc w0 _ _).trans h2) (Fresh.of h4 (by simp))
    unfold OwnI
    rw [List.length_append, hm, is_append]
    exact h1

/-- The same in a region that draws its order. -/
theorem stepI {ops : Array Oper} {o : Oper} {a : Act} {K : Act → World → Prop} {Q : Exit → Act → World → Prop} {E : Prop} (w0 : World) (hgd : o.guard = none) (s x : Operand)
    (ho : o.op = .call { callee := .builtin .append, args := #[s, x], argTypes := #[46, 46] })
    (B : Nat) (v : Value) (l bs : List Int) (cs : Array Value) (m : Nat) (hs : a.eval s = v) (hx : a.eval x = .slice (some ⟨w0.heap.size, 0, none⟩) m m)
    (hown : OwnI w0 B v l) (hcs : cs.toList = is bs) (hm : bs.length = m) (hB : B ≤ w0.heap.size) (hl : l.length + m ≤ 1000000)
    (h : ∀ v' w', OwnI w' B v' (l ++ bs) → w0.grownBy w' v.ownBlock → K (a.put o.dst v') w') :
    if Region.wanted o (yielded ops a.tmps) = true then Oper.wp Tryd.prog o a (w0.alloc (.cells cs 3)).drew K Q else E := by
  have hw : Region.wanted o (yielded ops a.tmps) = true := by simp [Region.wanted, hgd]
  rw [if_pos hw]
  obtain ⟨i0, hi, hz0, hz1, hz2⟩ := info_parts info3
  obtain ⟨v', w', hr, h2, h3, _, _⟩ := run_append_own_at (P := Tryd.prog) (w0.alloc (.cells cs 3)).drew B 46 o.type 3 i0 (.int .i64 0) 1 8 Tryd.underlying46 hi hz0 hz1 hz2 rfl (by decide) v l.length (is l) (hown.alloc _)
    ⟨w0.heap.size, 0, none⟩ m m (is bs) (by rw [is_length, hm]; omega) (by rw [← hcs]; exact cells_new w0 cs 3) (oneI bs) (by unfold maxLen; omega) (by omega) (by show B ≤ (w0.alloc _).heap.size; simp; omega)
  unfold Oper.wp execOp
  simp only [ho, resolve, invoke, builtin, Sem.run_bind, Sem.run_pure, Result.andThen_ok, List.map_toArray, List.map_cons, List.map_nil, hs, hx, hr]
  refine h v' w' ?_ ⟨h3.os, h3.tape, h3.output, Nat.le_trans (by simp) h3.size, fun k hk hne => (h3.block k (by show k < (w0.alloc _).heap.size; simp; omega) hne).trans (Below.heap_alloc w0 _ k hk)⟩
  unfold OwnI
  rw [List.length_append, hm, is_append]
  exact h2

set_option maxRecDepth 20000 in
/-- append(out, xs...) of bytes that lie anywhere, or nowhere. -/
theorem catI {ops : Array Oper} {rest : List Oper} {o : Oper} {a : Act} {Q : Exit → Act → World → Prop} (w0 : World) (hgd : o.guard = none) (s x : Operand)
    (ho : o.op = .call { callee := .builtin .append, args := #[s, x], argTypes := #[46, 46] })
    (B C : Nat) (v : Value) (l bs : List Int) (A : Option Addr) (m c : Nat) (hs : a.eval s = v) (hx : a.eval x = .slice A m c)
    (hown : OwnI w0 B v l) (hr : Rd w0 C A m (is bs)) (hA : A = none → c = 0) (hB : B ≤ w0.heap.size) (hl : l.length + m ≤ 1000000)
    (h : ∀ v' w', OwnI w' B v' (l ++ bs) → w0.grownBy w' v.ownBlock → Fresh w0 v v' → wpList Tryd.prog ops Q rest (a.put o.dst v') w') :
    wpList Tryd.prog ops Q (o :: rest) a w0 := by
  obtain ⟨i0, hi, hz0, hz1, hz2⟩ := info_parts info3
  have hm : bs.length = m := by have := hr.1; rwa [is_length] at this
  rcases A with _ | ad
  · have h0 : m = 0 := by
      rcases Nat.eq_zero_or_pos m with h0 | h0
      · exact h0
      · obtain ⟨g, o, he, _⟩ := hr.2 h0; cases he
    subst h0
    have : bs = [] := List.eq_nil_of_length_eq_zero hm
    subst this
    refine wpList_append_own_none hgd s x 46 ho B 3 i0 1 Tryd.underlying46 hi v l.length (is l) hs hown (by rw [hx, hA rfl]) ?_
    exact h v w0 (by simpa using hown) (World.grownBy.refl _ _) (Fresh.same _ _)
  · refine wpList_append_own_at _ hgd s x 46 ho B 3 i0 (.int .i64 0) 1 8 Tryd.underlying46 hi hz0 hz1 hz2 rfl (by decide) v l.length (is l) hs hown
      ad m c (is bs) hx (by rw [is_length, hm]; omega) ?_ (oneI bs) (by unfold maxLen; omega) (by omega) hB ?_
    · intro j u hu
      have h0 : 0 < m := by
        rcases Nat.eq_zero_or_pos m with h0 | h0
        · subst h0
          have : bs = [] := List.eq_nil_of_length_eq_zero hm
          subst this
          simp [is] at hu
        · exact h0
      obtain ⟨g, o, he, _, hc⟩ := hr.2 h0
      injection he with he
      subst he
      rw [Go.WideShapes.add_plain]
      exact hc j u hu
    · intro v' w' h1 h2 _ h4
      refine h v' w' ?_ h2 (Fresh.of h4 (Nat.le_refl _))
      unfold OwnI
      rw [List.length_append, hm, is_append]
      exact h1

theorem OwnI.lit (w : World) (cs : Array Value) (l : List Int) (n : Nat) (h : cs.toList = is l) (hn : l.length = n) (hm : n ≤ 1000000) :
    OwnI (w.alloc (.cells cs 3)) w.heap.size (.slice (some ⟨w.heap.size, 0, none⟩) n n) l := by
  have hs : cs.size = n := by rw [← Array.length_toList, h, is_length, hn]
  refine ⟨by rw [is_length]; omega, .inr ⟨w.heap.size, n, cs, by rw [hn], Nat.le_refl _, heap_alloc_new w _, by omega, by unfold maxLen; omega, by omega, ?_⟩⟩
  rw [h, List.take_of_length_le (by rw [is_length]; omega)]

theorem OwnI.nil (w : World) (B : Nat) : OwnI w B (.slice none 0 0) [] := World.ownsRow_nil w B 3 1

theorem OwnI.grown {w w' : World} {B : Nat} {a : World} {v : Value} {l : List Int} (h : OwnI w B v l) (hg : w.grownBy w' v.ownBlock) (hb : Below B a w) (hB : B ≤ w.heap.size) : Below B a w' :=
  hb.grown hg hB fun k hk => (World.ownsRow.lt h k hk).1

/-- An array of n numbers. -/
def ia (f : Nat → Nat) (n : Nat) : Array Value := ((List.range n).map fun i => Value.int .i64 (f i : Int)).toArray
theorem ia_size (f : Nat → Nat) (n : Nat) : (ia f n).size = n := by simp [ia]
theorem ia_at (f : Nat → Nat) {n i : Nat} (h : i < n) : (ia f n)[i]? = some (.int .i64 (f i : Int)) := by simp [ia, List.getElem?_range h]
theorem ia_one (f : Nat → Nat) (n : Nat) : (ia f n).all (·.oneCell') = true := by
  rw [Array.all_eq_true_iff_forall_mem]
  intro u hu
  simp only [ia, List.mem_toArray, List.mem_map] at hu
  obtain ⟨i, _, rfl⟩ := hu
  rfl
def upd (f : Nat → Nat) (i v : Nat) : Nat → Nat := fun j => if j = i then v else f j
theorem upd_same (f : Nat → Nat) (i v : Nat) : upd f i v i = v := by simp [upd]
theorem upd_ne (f : Nat → Nat) {i j : Nat} (v : Nat) (h : j ≠ i) : upd f i v j = f j := by simp [upd, h]
theorem ia_set (f : Nat → Nat) (n i v : Nat) : (ia f n).setIfInBounds i (.int .i64 (v : Int)) = ia (upd f i v) n := by
  apply Array.ext_getElem?
  intro j
  rcases Nat.lt_or_ge j n with h | h
  · rw [ia_at _ h, Array.getElem?_setIfInBounds]
    by_cases hj : i = j
    · subst hj; rw [if_pos rfl, if_pos (by rw [ia_size]; exact h), upd_same]
    · rw [if_neg hj, ia_at _ h, upd_ne _ _ (Ne.symm hj)]
  · rw [Array.getElem?_eq_none (by rw [Array.size_setIfInBounds, ia_size]; exact h), Array.getElem?_eq_none (by rw [ia_size]; exact h)]
theorem ia_congr {f g : Nat → Nat} {n : Nat} (h : ∀ i, i < n → f i = g i) : ia f n = ia g n := by
  unfold ia
  congr 1
  apply List.map_congr_left
  intro i hi
  rw [h i (List.mem_range.1 hi)]
/-- Block g holds the numbers f. -/
theorem Row.ia {w : World} {g n t : Nat} {f : Nat → Nat} (h : Row w g (ia f n) t) {i : Nat} (hi : i < n) : w.cell? ⟨g, i, none⟩ = some (.int .i64 (f i : Int)) := by rw [h.cell, ia_at _ hi]
theorem Row.iaSet {w : World} {g n t : Nat} {f : Nat → Nat} (h : Row w g (Go.Proofs.YtpnnlhegncbfaaaDoor.ia f n) t) (i v : Nat) (z : Int) (hz : z = (v : Int)) : Row (w.setCell ⟨g, i, none⟩ (.int .i64 z)) g (Go.Proofs.YtpnnlhegncbfaaaDoor.ia (upd f i v) n) t := by
  subst hz; rw [← ia_set]; exact h.set i _
theorem info114 : (Tryd.prog.info? 130).map (fun i => (i.zero, i.size)) = some (some (.agg (ia (fun _ => 0) 16)), 16) := by kernel_rfl
theorem size114 : (Tryd.prog.info? 130).map (·.size) = some 16 := by kernel_rfl
theorem info116 : (Tryd.prog.info? 134).map (fun i => (i.zero, i.size)) = some (some (.agg (ia (fun _ => 0) 17)), 17) := by kernel_rfl
theorem size116 : (Tryd.prog.info? 134).map (·.size) = some 17 := by kernel_rfl
theorem built114 : Tryd.prog.built 130 [] = some (ia (fun _ => 0) 16) := by kernel_rfl
theorem built116 : Tryd.prog.built 134 [] = some (ia (fun _ => 0) 17) := by kernel_rfl
/-- A new row of zeros, as a list of cells. -/
theorem zeros_ia (n : Nat) : madeCells #[.int .i64 0] n = ia (fun _ => 0) n := by
  apply Array.toList_inj.1
  rw [toList_madeCells_one]
  simp [ia, List.map_const']
theorem Row.rdI {w : World} {g n t : Nat} {f : Nat → Nat} (h : Row w g (Go.Proofs.YtpnnlhegncbfaaaDoor.ia f n) t) {B : Nat} (hB : g < B) : Rd w B (some ⟨g, 0, none⟩) n (Go.Proofs.YtpnnlhegncbfaaaDoor.ia f n).toList := by
  refine ⟨by simp [ia_size], fun _ => ⟨g, 0, rfl, hB, fun j u hu => ?_⟩⟩
  rw [h.cell, Nat.zero_add]
  simpa using hu

section
variable {P : Program} {ops : Array Oper} {rest : List Oper} {o : Oper} {a : Act} {Q : Exit → Act → World → Prop}
/-- A whole row loaded by an operation under a guard. -/
theorem load_row_w {w : World} (hw : Region.wanted o (yielded ops a.tmps) = true) (ty : TypeId) (x : Operand) (ho : o.op = .load ty x) (g : Nat) (hx : a.eval x = .pointer (some ⟨g, 0, none⟩)) (t : TypeId) (cs : Array Value) (d : TypeDesc)
    (hg : Row w g cs t) (hu : P.underlying ty = some d) (hd : (match d with | .struct _ | .array _ _ => true | _ => false) = true) (n : Nat) (hi : (P.info? ty).map (·.size) = some n) (hn : cs.size = n)
    (h : RowKit.Hid True → wpList P ops Q rest (a.put o.dst (.agg cs)) w) : wpList P ops Q (o :: rest) a w := by
  refine wpList_step fun K hK => ?_
  rw [if_pos hw]
  unfold Oper.wp execOp
  simp only [ho, hx, Instr.loadAt, Instr.sureAddr, Sem.run_bind, Sem.run_pure, Result.andThen_ok, run_loadVar_row w g t ty cs (0, 0) d hg hu hd (by rw [hi, hn])]
  exact hK _ _ (h (Lib.hid trivial))
end
end Go.Proofs.YtpnnlhegncbfaaaDoor
namespace Go.Proofs.YtpnnlhegncbfaaaDoor
set_option maxRecDepth 20000
open Go.RowKit

def tokC (a : Tk) : List Value := [U8 a.b, .int .i64 a.l, .int .i64 a.d]
abbrev tokV (a : Tk) : Value := .agg #[U8 a.b, .int .i64 a.l, .int .i64 a.d]
def toksC : List Tk → List Value
  | [] => []
  | o :: r => tokC o ++ toksC r
theorem toksC_append (a b : List Tk) : toksC (a ++ b) = toksC a ++ toksC b := by
  induction a with
  | nil => rfl
  | cons x a ih => simp [toksC, ih]
theorem toksC_length (a : List Tk) : (toksC a).length = a.length * 3 := by
  induction a with
  | nil => rfl
  | cons x a ih => simp [toksC, tokC, ih]; omega
theorem toksC_one (l : List Tk) : ∀ u ∈ toksC l, u.oneCell' = true := by
  induction l with
  | nil => intro u hu; cases hu
  | cons x a ih =>
    intro u hu
    rcases List.mem_append.1 hu with h | h
    · simp only [tokC, List.mem_cons, List.not_mem_nil, or_false] at h
      rcases h with rfl | rfl | rfl <;> rfl
    · exact ih u h
theorem toksC_at : ∀ (l : List Tk) (i : Nat) (x : Tk), l[i]? = some x → ∀ j u, (tokC x)[j]? = some u → (toksC l)[i * 3 + j]? = some u
  | y :: r, 0, x, h, j, u, hu => by
    injection h with h
    subst h
    rw [toksC, List.getElem?_append_left (by have := (List.getElem?_eq_some_iff.1 hu).1; simpa using this)]
    simpa using hu
  | y :: r, i + 1, x, h, j, u, hu => by
    rw [toksC, List.getElem?_append_right (by simp [tokC]; omega)]
    have := toksC_at r i x (by simpa using h) j u hu
    rw [show (i + 1) * 3 + j - (tokC y).length = i * 3 + j by simp [tokC]; omega]
    exact this

theorem info45 : (Tryd.prog.info? 44).map (fun i => (i.zero, i.size, i.bytes)) = some (some (.agg #[.int .u8 0, .int .i64 0, .int .i64 0]), 3, 24) := by kernel_rfl
theorem info31 : (Tryd.prog.info? 105).map (fun i => (i.zero, i.size, i.bytes)) = some (some (.agg #[.int .u8 0, .int .i64 0, .int .i64 0]), 3, 24) := by kernel_rfl

/-- A slice of tokens that reads as a list; where it is not empty it lies below block B. -/
def RdT (w : World) (B : Nat) (A : Option Addr) (n : Nat) (l : List Tk) : Prop :=
  l.length = n ∧ (0 < n → ∃ g o, A = some ⟨g, o, none⟩ ∧ g < B ∧ ∀ i x, l[i]? = some x → ∀ j u, (tokC x)[j]? = some u → w.cell? ⟨g, o + (i * 3 + j), none⟩ = some u)
theorem RdT.cells {w : World} {B : Nat} {A : Option Addr} {n : Nat} {l : List Tk} (h : RdT w B A n l) {k : Nat} (hk : k < n) :
    ∃ g o a, A = some ⟨g, o, none⟩ ∧ g < B ∧ l[k]? = some a ∧ w.cell? ⟨g, o + k * 3, none⟩ = some (.int .u8 (a.b.toNat : Int)) ∧ w.cell? ⟨g, o + k * 3 + 1, none⟩ = some (.int .i64 a.l) ∧ w.cell? ⟨g, o + k * 3 + 2, none⟩ = some (.int .i64 a.d) := by
  obtain ⟨g, o, rfl, hg, hc⟩ := h.2 (by omega)
  have hl : k < l.length := by rw [h.1]; exact hk
  have hc := hc k _ (List.getElem?_eq_getElem hl)
  refine ⟨g, o, l[k], rfl, hg, List.getElem?_eq_getElem hl, hc 0 _ rfl, ?_, ?_⟩
  · rw [Nat.add_assoc]; exact hc 1 _ rfl
  · rw [Nat.add_assoc]; exact hc 2 _ rfl
theorem RdT.below {w w' : World} {B : Nat} {A : Option Addr} {n : Nat} {l : List Tk} (h : RdT w B A n l) (hb : Below B w w') : RdT w' B A n l := by
  refine ⟨h.1, fun hn => ?_⟩
  obtain ⟨g, o, rfl, hg, hc⟩ := h.2 hn
  exact ⟨g, o, rfl, hg, fun i x hi j u hu => (hb.cell (p := ⟨g, o + (i * 3 + j), none⟩) hg).trans (hc i x hi j u hu)⟩
theorem RdT.more {w : World} {B B' : Nat} {A : Option Addr} {n : Nat} {l : List Tk} (h : RdT w B A n l) (hB : B ≤ B') : RdT w B' A n l := by
  refine ⟨h.1, fun hn => ?_⟩
  obtain ⟨g, o, rfl, hg, hc⟩ := h.2 hn
  exact ⟨g, o, rfl, by omega, hc⟩

/-- A row of tokens that the call made itself (e: the element's type). -/
def OwnT (e : TypeId) (w : World) (B : Nat) (v : Value) (l : List Tk) : Prop := w.ownsRow B e 3 v l.length (toksC l)
theorem ne_noneT (v : Value) : v.ownBlock = none ∨ v.ownBlock ≠ none := by cases v.ownBlock <;> simp
theorem OwnT.nil (e : TypeId) (w : World) (B : Nat) : OwnT e w B (.slice none 0 0) [] := World.ownsRow_nil w B e 3
theorem OwnT.lit0 (e : TypeId) (w : World) (B : Nat) (hB : B ≤ w.heap.size) : OwnT e (w.alloc (.cells #[] e)) B (.slice (some ⟨w.heap.size, 0, none⟩) 0 0) [] :=
  ⟨rfl, .inr ⟨w.heap.size, 0, #[], rfl, hB, heap_alloc_new w _, Nat.le_refl _, by unfold maxLen; omega, rfl, rfl⟩⟩
theorem OwnT.rd {e : TypeId} {w : World} {B : Nat} {v : Value} {l : List Tk} (h : OwnT e w B v l) : ∃ A c, v = .slice A l.length c ∧ (A = none → c = 0) ∧ RdT w w.heap.size A l.length l := by
  rcases h.2 with ⟨hv, hn⟩ | ⟨g, cap, cur, hv, hb, hg, rest⟩
  · exact ⟨none, 0, by rw [hv, hn], fun _ => rfl, ⟨rfl, fun h0 => by omega⟩⟩
  · have hlt := (Array.getElem?_eq_some_iff.1 hg).1
    refine ⟨_, _, hv, (fun h => by cases h), ⟨rfl, fun _ => ⟨g, 0, rfl, hlt, fun i x hx j u hu => ?_⟩⟩⟩
    have := World.ownsRow.cells h (g := g) (by rw [hv]; rfl) (i * 3 + j) u (toksC_at l i x hx j u hu)
    rw [Go.WideShapes.add_plain] at this
    exact this
theorem OwnT.slice {e : TypeId} {w : World} {B : Nat} {v : Value} {l : List Tk} (h : OwnT e w B v l) : ∃ A c, v = .slice A l.length c := by
  obtain ⟨A, c, h1, _⟩ := h.rd
  exact ⟨A, c, h1⟩

/-- append(list, t) of a token that was just laid in a block of its own. -/
theorem pushT {ops : Array Oper} {rest : List Oper} {o : Oper} {a : Act} {Q : Exit → Act → World → Prop} (S e : TypeId) (hu : Tryd.prog.underlying S = some (.slice e))
    (hif : (Tryd.prog.info? e).map (fun i => (i.zero, i.size, i.bytes)) = some (some (.agg #[.int .u8 0, .int .i64 0, .int .i64 0]), 3, 24))
    (w0 : World) (H : Nat) (hH : w0.heap.size = H) (hgd : o.guard = none) (s x : Operand)
    (ho : o.op = .call { callee := .builtin .append, args := #[s, x], argTypes := #[S, S] })
    (B : Nat) (v : Value) (l : List Tk) (b : Tk) (cs : Array Value) (hs : a.eval s = v) (hx : a.eval x = .slice (some ⟨H, 0, none⟩) 1 1)
    (hown : OwnT e w0 B v l) (hcs : cs.toList = tokC b) (hB : B ≤ w0.heap.size) (hl : l.length ≤ 1000000)
    (h : ∀ v' w', OwnT e w' B v' (l ++ [b]) → w0.grownBy w' v.ownBlock → wpList Tryd.prog ops Q rest (a.put o.dst v') w') :
    wpList Tryd.prog ops Q (o :: rest) a (w0.alloc (.cells cs e)) := by
  subst hH
  obtain ⟨i0, hi, hz0, hz1, hz2⟩ := info_parts hif
  have hc1 : tokC b = toksC [b] := by simp [toksC]
  refine wpList_append_own_at _ hgd s x S ho B e i0 _ 3 24 hu hi hz0 hz1 hz2 rfl (by decide) v l.length (toksC l) hs (World.ownsRow.alloc hown _)
    ⟨w0.heap.size, 0, none⟩ 1 1 (toksC [b]) hx (by rw [toksC_length]; rfl) ?_ (toksC_one _) (by unfold maxLen; omega) (by omega) (by simp; omega) ?_
  · rw [← hc1, ← hcs]; exact cells_new w0 cs e
  · intro v' w' h1 h2 _ _
    refine h v' w' ?_ ((World.grownBy_alloc w0 _ _).trans h2)
    unfold OwnT
    rw [List.length_append, toksC_append]
    exact h1

/-- An array of n numbers that may be below 0. -/
def ib (f : Nat → Int) (n : Nat) : Array Value := ((List.range n).map fun i => Value.int .i64 (f i)).toArray
theorem ib_size (f : Nat → Int) (n : Nat) : (ib f n).size = n := by simp [ib]
theorem ib_at (f : Nat → Int) {n i : Nat} (h : i < n) : (ib f n)[i]? = some (.int .i64 (f i)) := by simp [ib, List.getElem?_range h]
def updI (f : Nat → Int) (i : Nat) (v : Int) : Nat → Int := fun j => if j = i then v else f j
theorem ib_set (f : Nat → Int) (n i : Nat) (v : Int) : (ib f n).setIfInBounds i (.int .i64 v) = ib (updI f i v) n := by
  apply Array.ext_getElem?
  intro j
  rcases Nat.lt_or_ge j n with h | h
  · rw [ib_at _ h, Array.getElem?_setIfInBounds]
    by_cases hj : i = j
    · subst hj; rw [if_pos rfl, if_pos (by rw [ib_size]; exact h)]; simp [updI]
    · rw [if_neg hj, ib_at _ h]; simp [updI, Ne.symm hj]
  · rw [Array.getElem?_eq_none (by rw [Array.size_setIfInBounds, ib_size]; exact h), Array.getElem?_eq_none (by rw [ib_size]; exact h)]
theorem ib_congr {f g : Nat → Int} {n : Nat} (h : ∀ i, i < n → f i = g i) : ib f n = ib g n := by
  unfold ib
  congr 1
  apply List.map_congr_left
  intro i hi
  rw [h i (List.mem_range.1 hi)]
theorem Row.ib {w : World} {g n t : Nat} {f : Nat → Int} (h : Row w g (ib f n) t) {i : Nat} (hi : i < n) : w.cell? ⟨g, i, none⟩ = some (.int .i64 (f i)) := by rw [h.cell, ib_at _ hi]
theorem Row.ibSet {w : World} {g n t : Nat} {f : Nat → Int} (h : Row w g (Go.Proofs.YtpnnlhegncbfaaaDoor.ib f n) t) (i : Nat) (v : Int) : Row (w.setCell ⟨g, i, none⟩ (.int .i64 v)) g (Go.Proofs.YtpnnlhegncbfaaaDoor.ib (updI f i v) n) t := by
  rw [← ib_set]; exact h.set i _
/-- A new row of zeros, as a list of cells. -/
theorem zeros_ib (n : Nat) : madeCells #[.int .i64 0] n = ib (fun _ => 0) n := by
  apply Array.toList_inj.1
  rw [toList_madeCells_one]
  simp [ib, List.map_const']
end Go.Proofs.YtpnnlhegncbfaaaDoor
namespace Go.Proofs.YtpnnlhegncbfaaaDoor
set_option maxRecDepth 20000
open Go.RowKit

theorem drewN_two (w : World) (a b : Nat) : (w.drewN a).drewN b = w.drewN (a + b) := by
  induction b with
  | zero => rfl
  | succ b ih => rw [← Nat.add_assoc]; exact congrArg World.drew ih
/-- A byte of the text, where it is. -/
theorem Rd.byte {w : World} {B : Nat} {A : Option Addr} {n : Nat} {l : List UInt8} (h : Rd w B A n (us l)) {k : Nat} (hk : k < n) :
    ∃ g o, A = some ⟨g, o, none⟩ ∧ g < B ∧ ∀ j, j < n → w.cell? ⟨g, o + j, none⟩ = some (.int .u8 ((l.getD j 0).toNat : Int)) := by
  obtain ⟨g, o, rfl, hg, hc⟩ := h.2 (by omega)
  refine ⟨g, o, rfl, hg, fun j hj => hc j _ ?_⟩
  have hl : j < l.length := by have := h.1; rw [us_length] at this; omega
  simp [us, List.getElem?_eq_getElem hl, List.getD_eq_getElem?_getD]
theorem mt_more {t : List UInt8} {p q k n : Nat} (h : t.getD (p + n) 0 = t.getD (q + n) 0) : mt t p q (k + 1) n = mt t p q k (n + 1) := by
  rw [mt, if_pos h]
theorem mt_stop {t : List UInt8} {p q k n : Nat} (h : ¬ t.getD (p + n) 0 = t.getD (q + n) 0) : mt t p q (k + 1) n = n := by
  rw [mt, if_neg h]

set_option maxHeartbeats 2000000 in
theorem matched_any (A : Option Addr) (n c : Nat) (l : List UInt8) (p q most : Nat) (w : World) (hr : Rd w w.heap.size A n (us l)) (hp : p + most ≤ n) (hq : q + most ≤ n) (hn : n ≤ 1000000) :
    Calls Tryd.prog 34 #[.slice A n c, .int .i64 (p : Int), .int .i64 (q : Int), .int .i64 (most : Int)] w fun e w' => e = .returned (.int .i64 (mlen l p q most : Int)) ∧ ∃ k, w' = w.drewN k := by
  obtain ⟨X, HX⟩ : ∃ X, RowKit.Hid (mlen l p q most = X) := ⟨_, Lib.hid rfl⟩
  rw [HX.out]
  have HR := Lib.hid hr
  clear hr
  go_enter Tryd.func34, Tryd.ntmps34
  go_wp2_with fail
  go_loopw [9] (fun i wr => ∃ k s : Nat, k ≤ most ∧ i = .int .i64 (k : Int) ∧ wr = w.drewN s ∧ mt l p q (most - k) k = X) (fun i _ => most - (intOf i).toNat)
  case atStart => exact ⟨0, 0, by omega, rfl, rfl, HX.out⟩
  case round =>
    obtain ⟨k, s, hk, rfl, hwr, hm⟩ := hrel
    have HW := Lib.hid hwr
    have HM := Lib.hid hm
    clear hwr hm
    by_cases hlt : k < most
    · have d1 : decide ((k : Int) < (most : Int)) = true := decide_eq_true (by omega)
      obtain ⟨g, o, rfl, hg, hc⟩ := HR.out.byte (k := p + k) (by omega)
      have c1 : wr.cell? ⟨g, o + (p + k), none⟩ = some (.int .u8 ((l.getD (p + k) 0).toNat : Int)) := by rw [HW.out]; exact hc _ (by omega)
      have c2 : wr.cell? ⟨g, o + (q + k), none⟩ = some (.int .u8 ((l.getD (q + k) 0).toNat : Int)) := by rw [HW.out]; exact hc _ (by omega)
      obtain ⟨i1, e1⟩ : ∃ i1, p + k = i1 := ⟨_, rfl⟩
      obtain ⟨i2, e2⟩ : ∃ i2, q + k = i2 := ⟨_, rfl⟩
      have f1 : (p : Int) + (k : Int) = (i1 : Int) := by omega
      have f2 : (q : Int) + (k : Int) = (i2 : Int) := by omega
      have b1 : i1 < n := by omega
      have b2 : i2 < n := by omega
      have HE := Lib.hid (And.intro e1 e2)
      rw [e1] at c1
      rw [e2] at c2
      obtain ⟨x, hx⟩ : ∃ x, l.getD i1 0 = x := ⟨_, rfl⟩
      obtain ⟨y, hy⟩ : ∃ y, l.getD i2 0 = y := ⟨_, rfl⟩
      rw [hx] at c1
      rw [hy] at c2
      have HXY := Lib.hid (And.intro hx hy)
      clear hc hx hy e1 e2
      by_cases hxy : x = y
      · subst hxy
        have d2 : ((x.toNat : Int) == (x.toNat : Int)) = true := by simp
        have HM2 : RowKit.Hid (mt l p q (most - (k + 1)) (k + 1) = X) := Lib.hid (by
          rw [← HM.out, show most - k = (most - (k + 1)) + 1 by omega, mt_more (by rw [HE.out.1, HE.out.2, HXY.out.1, HXY.out.2])])
        go_wp2_with fail
        go_quiet (fail)
        have HW2 : RowKit.Hid (wr.drewN nq = w.drewN (s + nq)) := Lib.hid (by rw [HW.out]; exact drewN_two w s nq)
        generalize wr.drewN nq = w6 at HW2 ⊢
        clear HW c1 c2 HM
        go_wp2_with fail
        go_roundw
        case rel => exact ⟨k + 1, s + nq, by omega, by simp, HW2.out, HM2.out⟩
        case measure => simp [intOf]; omega
      · have d2 : ((x.toNat : Int) == (y.toNat : Int)) = false := by
          rw [beq_eq_false_iff_ne]
          intro e
          exact hxy (UInt8.toNat_inj.1 (by omega))
        have HXK : RowKit.Hid (X = k) := Lib.hid (by
          rw [← HM.out, show most - k = (most - (k + 1)) + 1 by omega, mt_stop (by rw [HE.out.1, HE.out.2, HXY.out.1, HXY.out.2]; exact hxy)])
        go_wp2_with fail
        go_quiet (fail)
        have HW2 : RowKit.Hid (wr.drewN nq = w.drewN (s + nq)) := Lib.hid (by rw [HW.out]; exact drewN_two w s nq)
        generalize wr.drewN nq = w6 at HW2 ⊢
        clear HW c1 c2 HM
        go_wp2_with fail
        go_ret
        exact ⟨by rw [HXK.out]; rfl, _, HW2.out⟩
    · obtain rfl : k = most := by omega
      have d1 : decide ((k : Int) < (k : Int)) = false := decide_eq_false (by omega)
      have HXK : RowKit.Hid (X = k) := Lib.hid (by rw [← HM.out, Nat.sub_self]; rfl)
      go_wp2_with fail
      go_quiet (fail)
      have HW2 : RowKit.Hid (wr.drewN nq = w.drewN (s + nq)) := Lib.hid (by rw [HW.out]; exact drewN_two w s nq)
      generalize wr.drewN nq = w6 at HW2 ⊢
      clear HW HM
      go_wp2_with fail
      go_ret
      exact ⟨by rw [HXK.out]; rfl, _, HW2.out⟩
end Go.Proofs.YtpnnlhegncbfaaaDoor
