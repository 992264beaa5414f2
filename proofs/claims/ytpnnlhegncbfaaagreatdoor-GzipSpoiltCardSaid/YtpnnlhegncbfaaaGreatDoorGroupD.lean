
/- Laws for whole rows: a variable made, boxed, loaded or stored as a whole or in part, over worlds that are known by facts alone. -/

/- Rows of numbers: a slice of ints that reads as a list, one that the call made itself, append on it, and arrays of ints. -/

/- Contracts of countsOf, firstsOf, isFull, isLone and of slices.Clone of numbers. -/
import Derived.Test.YtpnnlhegncbfaaaGreatDoorGroupA
import Derived.Test.YtpnnlhegncbfaaaGreatDoorGroupC
import Derived.Deep.WholeRow
import Derived.Laws.CopyRow
import Derived.Deep.Cut
import Derived.Deep.OwnRows
namespace Go.Proofs.YtpnnlhegncbfaaaGreatDoor
set_option maxRecDepth 20000
open Go.RowKit


theorem Row.inj {w : World} {g : Nat} {cs cs' : Array Value} {t t' : TypeId} (h : Row w g cs t) (h' : Row w g cs' t') : cs = cs' ∧ t = t' := by
  unfold Row at h h'; rw [h] at h'; injection h' with h'; injection h' with h1 h2; exact ⟨h1, h2⟩

theorem grown_setRow (w : World) (g : Nat) (cs : Array Value) : w.grownBy (w.setRow g cs) (some g) :=
  ⟨rfl, rfl, rfl, by simp, fun k _ hk => setRow_other w g k cs (fun e => hk (by rw [e]))⟩

section
variable {P : Program} {ops : Array Oper} {rest : List Oper} {o : Oper} {a : Act} {Q : Exit → Act → World → Prop}

theorem box_row {w : World} (hgd : o.guard = none) (ty : TypeId) (x : Operand) (ho : o.op = .box ty x) (cs : Array Value) (hx : a.eval x = .agg cs)
    (h : ∀ w', Row w' w.heap.size cs ty → w.grownBy w' none → w'.heap.size = w.heap.size + 1 → wpList P ops Q rest (a.put o.dst (.pointer (some ⟨w.heap.size, 0, none⟩))) w') : wpList P ops Q (o :: rest) a w :=
  wpList_plain hgd fun K hK => by
    unfold Oper.wp execOp
    simp only [ho, hx, Instr.box, newVar, Value.cells]
    exact hK _ _ (h (w.alloc (.cells cs ty)) (heap_alloc_new w _) (World.grownBy_alloc w _ _) (by simp))

theorem alloc_row {w : World} (hgd : o.guard = none) (ty : TypeId) (ho : o.op = .alloc ty) (cs : Array Value) (n : Nat) (hi : (P.info? ty).map (fun i => (i.zero, i.size)) = some (some (.agg cs), n))
    (h : ∀ w', Row w' w.heap.size cs ty → w.grownBy w' none → w'.heap.size = w.heap.size + 1 → wpList P ops Q rest (a.put o.dst (.pointer (some ⟨w.heap.size, 0, none⟩))) w') : wpList P ops Q (o :: rest) a w :=
  wpList_plain hgd fun K hK => by
    have hz := (zero_of_info hi).1
    unfold Oper.wp execOp
    simp only [ho, Instr.alloc, Sem.run_bind, hz, Result.andThen_ok, newVar, Value.cells]
    exact hK _ _ (h (w.alloc (.cells cs ty)) (heap_alloc_new w _) (World.grownBy_alloc w _ _) (by simp))

theorem load_row {w : World} (hgd : o.guard = none) (ty : TypeId) (x : Operand) (ho : o.op = .load ty x) (g : Nat) (hx : a.eval x = .pointer (some ⟨g, 0, none⟩)) (t : TypeId) (cs : Array Value) (d : TypeDesc)
    (hg : Row w g cs t) (hu : P.underlying ty = some d) (hd : (match d with | .struct _ | .array _ _ => true | _ => false) = true) (n : Nat) (hi : (P.info? ty).map (·.size) = some n) (hn : cs.size = n)
    (h : RowKit.Hid True → wpList P ops Q rest (a.put o.dst (.agg cs)) w) : wpList P ops Q (o :: rest) a w :=
  wpList_load_row hgd ty x ho g hx t cs (0, 0) d hg hu hd (by rw [hi, hn]) (h (Lib.hid trivial))

theorem store_row {w : World} (hgd : o.guard = none) (ty : TypeId) (x y : Operand) (ho : o.op = .store ty x y) (g : Nat) (cells : Array Value) (hx : a.eval x = .pointer (some ⟨g, 0, none⟩)) (hy : a.eval y = .agg cells)
    (t : TypeId) (old : Array Value) (hg : Row w g old t) (n : Nat) (hi : (P.info? ty).map (·.size) = some n) (hn : cells.size = n) (hold : old.size = n) (h1 : cells.all (·.oneCell') = true)
    (h : ∀ w', Row w' g cells t → w.grownBy w' (some g) → w'.heap.size = w.heap.size → wpList P ops Q rest (a.put o.dst undef) w') : wpList P ops Q (o :: rest) a w :=
  wpList_store_row hgd ty x y ho g cells hx hy t old hg (by rw [hi, hn]) (by rw [hold, hn]) h1
    (h _ (setRow_heap w g old cells t _ hg) (grown_setRow w g cells) (by simp))

/-- The walk stands at a load, a store, .. of this type: seen without unfolding anything. -/
theorem at_load (ty : TypeId) {w : World} {dst : Option Tmp} {x : Operand} {t : TypeId} {pos : String} {aft : Array Edge} {g : Option (Nat × Bool)} (h : wpList P ops Q (⟨dst, .load ty x, t, pos, aft, g⟩ :: rest) a w) : wpList P ops Q (⟨dst, .load ty x, t, pos, aft, g⟩ :: rest) a w := h
theorem at_store (ty : TypeId) {w : World} {dst : Option Tmp} {x y : Operand} {t : TypeId} {pos : String} {aft : Array Edge} {g : Option (Nat × Bool)} (h : wpList P ops Q (⟨dst, .store ty x y, t, pos, aft, g⟩ :: rest) a w) : wpList P ops Q (⟨dst, .store ty x y, t, pos, aft, g⟩ :: rest) a w := h
theorem at_alloc (ty : TypeId) {w : World} {dst : Option Tmp} {t : TypeId} {pos : String} {aft : Array Edge} {g : Option (Nat × Bool)} (h : wpList P ops Q (⟨dst, .alloc ty, t, pos, aft, g⟩ :: rest) a w) : wpList P ops Q (⟨dst, .alloc ty, t, pos, aft, g⟩ :: rest) a w := h
theorem at_box (ty : TypeId) {w : World} {dst : Option Tmp} {x : Operand} {t : TypeId} {pos : String} {aft : Array Edge} {g : Option (Nat × Bool)} (h : wpList P ops Q (⟨dst, .box ty x, t, pos, aft, g⟩ :: rest) a w) : wpList P ops Q (⟨dst, .box ty x, t, pos, aft, g⟩ :: rest) a w := h

/-- The walk is to stop here. -/
theorem halt_store (ty : TypeId) {w : World} {dst : Option Tmp} {x y : Operand} {t : TypeId} {pos : String} {aft : Array Edge} {g : Option (Nat × Bool)} (h : RowKit.Hid (wpList P ops Q (⟨dst, .store ty x y, t, pos, aft, g⟩ :: rest) a w)) : wpList P ops Q (⟨dst, .store ty x y, t, pos, aft, g⟩ :: rest) a w := h
theorem halt_load (ty : TypeId) {w : World} {dst : Option Tmp} {x : Operand} {t : TypeId} {pos : String} {aft : Array Edge} {g : Option (Nat × Bool)} (h : RowKit.Hid (wpList P ops Q (⟨dst, .load ty x, t, pos, aft, g⟩ :: rest) a w)) : wpList P ops Q (⟨dst, .load ty x, t, pos, aft, g⟩ :: rest) a w := h
theorem halt_alloc (ty : TypeId) {w : World} {dst : Option Tmp} {t : TypeId} {pos : String} {aft : Array Edge} {g : Option (Nat × Bool)} (h : RowKit.Hid (wpList P ops Q (⟨dst, .alloc ty, t, pos, aft, g⟩ :: rest) a w)) : wpList P ops Q (⟨dst, .alloc ty, t, pos, aft, g⟩ :: rest) a w := h

/-- A part of a row, as an array of its own. -/
theorem run_load_seg (w : World) (g off : Nat) (t ty : TypeId) (cs : Array Value) (part : List Value) (d : TypeDesc) (hg : Row w g cs t)
    (hu : P.underlying ty = some d) (hd : (match d with | .struct _ | .array _ _ => true | _ => false) = true) (hi : (P.info? ty).map (·.size) = some part.length)
    (hp : ∀ j v, part[j]? = some v → cs[off + j]? = some v) : (loadVar ty ⟨g, off, none⟩).run P w = .ok (.agg part.toArray) w := by
  have hl : (loadCells ⟨g, off, none⟩ part.length).run P w = .ok part.toArray w :=
    run_loadCells_list (P := P) w ⟨g, off, none⟩ part (fun j v hv => by
      have hadd : (⟨g, off, none⟩ : Addr).add j = ⟨g, off + j, none⟩ := by unfold Addr.add; split <;> simp_all
      rw [hadd, hg.cell]
      exact hp j v hv)
  cases hq : P.info? ty with
  | none => simp [hq] at hi
  | some i =>
    have hs : i.size = part.length := by simpa [hq] using hi
    have hagg : (isAgg ty).run P w = .ok true w := by
      unfold isAgg
      rw [Sem.run_bind, run_underlying hu w]
      cases d <;> simp_all
    simp [loadVar, Sem.run_bind, hagg, sizeOf, typeInfo, hq, hs, hl]

theorem load_seg {w : World} (hgd : o.guard = none) (ty : TypeId) (x : Operand) (ho : o.op = .load ty x) (g off : Nat) (hx : a.eval x = .pointer (some ⟨g, off, none⟩)) (t : TypeId) (cs : Array Value) (part : List Value) (d : TypeDesc)
    (hg : Row w g cs t) (hu : P.underlying ty = some d) (hd : (match d with | .struct _ | .array _ _ => true | _ => false) = true) (hi : (P.info? ty).map (·.size) = some part.length) (hp : ∀ j v, part[j]? = some v → cs[off + j]? = some v)
    (h : RowKit.Hid True → wpList P ops Q rest (a.put o.dst (.agg part.toArray)) w) : wpList P ops Q (o :: rest) a w :=
  wpList_plain hgd fun K hK => by
    unfold Oper.wp execOp
    simp only [ho, hx, Instr.loadAt, Instr.sureAddr, Sem.run_bind, Sem.run_pure, Result.andThen_ok, run_load_seg w g off t ty cs part d hg hu hd hi hp]
    exact hK _ _ (h (Lib.hid trivial))
end

theorem run_store_seg {P : Program} (w : World) (g off : Nat) (t ty : TypeId) (cs part : Array Value) (hg : Row w g cs t) (hi : (P.info? ty).map (·.size) = some part.size) (hl : off + part.size ≤ cs.size) (h1 : part.all (·.oneCell') = true) :
    (storeVar ty ⟨g, off, none⟩ (.agg part)).run P w = .ok () (w.setRow g (cs.toList.take off ++ part.toList ++ cs.toList.drop (off + part.size)).toArray) := by
  have := run_storeCells_at (P := P) g off t part.toList 0 cs w hg (by simp; omega) (fun v hv => (Array.all_eq_true_iff_forall_mem.1 h1) v (by simpa using hv))
  cases hq : P.info? ty with
  | none => simp [hq] at hi
  | some i =>
    have hs : part.size = i.size := by simp [hq] at hi; omega
    simp only [Nat.add_zero, Array.length_toList] at this
    simp [storeVar, sizeOf, typeInfo, hq, Value.cells, hs] at this ⊢
    exact this
section
variable {P : Program} {ops : Array Oper} {rest : List Oper} {o : Oper} {a : Act} {Q : Exit → Act → World → Prop}
theorem run_load_cells (w : World) (g off : Nat) (ty : TypeId) (part : List Value) (d : TypeDesc)
    (hu : P.underlying ty = some d) (hd : (match d with | .struct _ | .array _ _ => true | _ => false) = true) (hi : (P.info? ty).map (·.size) = some part.length)
    (hp : ∀ j v, part[j]? = some v → w.cell? ⟨g, off + j, none⟩ = some v) : (loadVar ty ⟨g, off, none⟩).run P w = .ok (.agg part.toArray) w := by
  have hl : (loadCells ⟨g, off, none⟩ part.length).run P w = .ok part.toArray w :=
    run_loadCells_list (P := P) w ⟨g, off, none⟩ part (fun j v hv => by
      have hadd : (⟨g, off, none⟩ : Addr).add j = ⟨g, off + j, none⟩ := by unfold Addr.add; split <;> simp_all
      rw [hadd]
      exact hp j v hv)
  cases hq : P.info? ty with
  | none => simp [hq] at hi
  | some i =>
    have hs : i.size = part.length := by simpa [hq] using hi
    have hagg : (isAgg ty).run P w = .ok true w := by
      unfold isAgg
      rw [Sem.run_bind, run_underlying hu w]
      cases d <;> simp_all
    simp [loadVar, Sem.run_bind, hagg, sizeOf, typeInfo, hq, hs, hl]
theorem load_cells {w : World} (hgd : o.guard = none) (ty : TypeId) (x : Operand) (ho : o.op = .load ty x) (g off : Nat) (hx : a.eval x = .pointer (some ⟨g, off, none⟩)) (part : List Value) (d : TypeDesc)
    (hu : P.underlying ty = some d) (hd : (match d with | .struct _ | .array _ _ => true | _ => false) = true) (hi : (P.info? ty).map (·.size) = some part.length) (hp : ∀ j v, part[j]? = some v → w.cell? ⟨g, off + j, none⟩ = some v)
    (h : RowKit.Hid True → wpList P ops Q rest (a.put o.dst (.agg part.toArray)) w) : wpList P ops Q (o :: rest) a w :=
  wpList_plain hgd fun K hK => by
    unfold Oper.wp execOp
    simp only [ho, hx, Instr.loadAt, Instr.sureAddr, Sem.run_bind, Sem.run_pure, Result.andThen_ok, run_load_cells w g off ty part d hu hd hi hp]
    exact hK _ _ (h (Lib.hid trivial))
theorem build_row {w : World} (hgd : o.guard = none) (t : TypeId) (parts : Array (Nat × Operand)) (ho : o.op = .build t parts) (cells : Array Value) (hb : P.built t ((parts.map fun (i, x) => (i, a.eval x)).toList) = some cells)
    (h : RowKit.Hid True → wpList P ops Q rest (a.put o.dst (.agg cells)) w) : wpList P ops Q (o :: rest) a w :=
  wpList_plain hgd fun K hK => by
    unfold Oper.wp execOp
    simp only [ho, Sem.run_bind, run_build w t _ cells hb, Result.andThen_ok]
    exact hK _ _ (h (Lib.hid trivial))
end

theorem results_two {P : Program} {fn : Func} {p q : Tmp} {ty : TypeId} (h : fn.results = #[.cell p ty, .tmp q]) (tmps : Array Value) (w : World) (g : Nat) (t : TypeId) (cs : Array Value) (d : TypeDesc) (v : Value)
    (hp : tmps.getD p undef = .pointer (some ⟨g, 0, none⟩)) (hq : tmps.getD q undef = v) (hg : Row w g cs t)
    (hu : P.underlying ty = some d) (hd : (match d with | .struct _ | .array _ _ => true | _ => false) = true) (hi : (P.info? ty).map (·.size) = some cs.size) :
    (results fn tmps).run P w = .ok (.tuple #[.agg cs, v]) w := by
  have hp' : tmps[p]?.getD undef = .pointer (some ⟨g, 0, none⟩) := by simpa using hp
  have hq' : tmps[q]?.getD undef = v := by simpa using hq
  simp [results, h, hp', hq', asAddr, run_loadVar_row w g t ty cs (0, 0) d hg hu hd hi]

end Go.Proofs.YtpnnlhegncbfaaaGreatDoor
namespace Go.Proofs.YtpnnlhegncbfaaaGreatDoor
set_option maxRecDepth 20000
open Go.RowKit

/-- Numbers as cells. -/
def is (l : List Int) : List Value := l.map fun x => Value.int .i64 x
theorem is_length (l : List Int) : (is l).length = l.length := by simp [is]
theorem is_append (a b : List Int) : is (a ++ b) = is a ++ is b := by simp [is]
theorem info3 : (Tryz.prog.info? 3).map (fun i => (i.zero, i.size, i.bytes)) = some (some (.int .i64 0), 1, 8) := by kernel_rfl
/-- A row of numbers that the call made itself, among the blocks from B on. -/
def OwnI (w : World) (B : Nat) (v : Value) (l : List Int) : Prop := w.ownsRow B 3 1 v l.length (is l)
theorem Rd.atI {w : World} {B : Nat} {A : Option Addr} {n : Nat} {l : List Int} (h : Rd w B A n (is l)) {k : Nat} {x : Int} (hk : l[k]? = some x) :
    ∃ g o, A = some ⟨g, o, none⟩ ∧ g < B ∧ w.cell? ⟨g, o + k, none⟩ = some (.int .i64 x) := by
  have hl := (List.getElem?_eq_some_iff.1 hk).1
  have hn := h.1
  rw [is_length] at hn
  obtain ⟨g, o, rfl, hg, hc⟩ := h.2 (by omega)
  exact ⟨g, o, rfl, hg, hc k _ (by simp [is, hk])⟩
theorem OwnI.rd {w : World} {B : Nat} {A : Option Addr} {n c : Nat} {l : List Int} (h : OwnI w B (.slice A n c) l) : n = l.length ∧ Rd w w.heap.size A n (is l) := by
  rcases h.2 with ⟨hv, hn⟩ | ⟨g, cap, cur, hv, hb, hg, rest⟩
  · injection hv with h1 h2 h3
    subst h2
    refine ⟨hn.symm, ?_, fun h0 => by omega⟩
    rw [is_length]; exact hn
  · injection hv with h1 h2 h3
    subst h1 h2
    refine ⟨rfl, by rw [is_length], fun _ => ⟨g, 0, rfl, (Array.getElem?_eq_some_iff.1 hg).1, fun j u hu => ?_⟩⟩
    have := World.ownsRow.cells h (g := g) rfl j u hu
    rw [Go.WideShapes.add_plain] at this
    exact this

theorem OwnI.slice {w : World} {B : Nat} {v : Value} {l : List Int} (h : OwnI w B v l) : ∃ A c, v = .slice A l.length c := by
  rcases h.2 with ⟨hv, hn⟩ | ⟨g, cap, cur, hv, _⟩
  · exact ⟨none, 0, by rw [hv, hn]⟩
  · exact ⟨_, _, hv⟩

theorem oneI (l : List Int) : ∀ u ∈ is l, u.oneCell' = true := by
  intro u hu
  obtain ⟨b, _, rfl⟩ := List.mem_map.1 hu
  rfl

/-- append(out, b..) of bytes that were just laid in a block of their own. -/
theorem pushI {ops : Array Oper} {rest : List Oper} {o : Oper} {a : Act} {Q : Exit → Act → World → Prop} (w0 : World) (hgd : o.guard = none) (s x : Operand)
    (ho : o.op = .call { callee := .builtin .append, args := #[s, x], argTypes := #[64, 64] })
    (B : Nat) (v : Value) (l bs : List Int) (cs : Array Value) (m : Nat) (hs : a.eval s = v) (hx : a.eval x = .slice (some ⟨w0.heap.size, 0, none⟩) m m)
    (hown : OwnI w0 B v l) (hcs : cs.toList = is bs) (hm : bs.length = m) (hB : B ≤ w0.heap.size) (hl : l.length + m ≤ 1000000)
    (h : ∀ v' w', OwnI w' B v' (l ++ bs) → w0.grownBy w' v.ownBlock → Fresh w0 v v' → wpList Tryz.prog ops Q rest (a.put o.dst v') w') :
    wpList Tryz.prog ops Q (o :: rest) a (w0.alloc (.cells cs 3)) := by
  obtain ⟨i0, hi, hz0, hz1, hz2⟩ := info_parts info3
  refine wpList_append_own_at _ hgd s x 64 ho B 3 i0 (.int .i64 0) 1 8 Tryz.underlying64 hi hz0 hz1 hz2 rfl (by decide) v l.length (is l) hs (hown.alloc _)
    ⟨w0.heap.size, 0, none⟩ m m (is bs) hx (by rw [is_length, hm]; omega) ?_ (oneI bs) (by unfold maxLen; omega) (by omega) (by simp; omega) ?_
  · rw [← hcs]; exact cells_new w0 cs 3
  · intro v' w' h1 h2 _ h4
    refine h v' w' ?_ ((World.grownBy_alloc w0 _ _).trans h2) (Fresh.of h4 (by simp))
    unfold OwnI
    rw [List.length_append, hm, is_append]
    exact h1

/-- The same in a region that draws its order. -/
theorem stepI {ops : Array Oper} {o : Oper} {a : Act} {K : Act → World → Prop} {Q : Exit → Act → World → Prop} {E : Prop} (w0 : World) (hgd : o.guard = none) (s x : Operand)
    (ho : o.op = .call { callee := .builtin .append, args := #[s, x], argTypes := #[64, 64] })
    (B : Nat) (v : Value) (l bs : List Int) (cs : Array Value) (m : Nat) (hs : a.eval s = v) (hx : a.eval x = .slice (some ⟨w0.heap.size, 0, none⟩) m m)
    (hown : OwnI w0 B v l) (hcs : cs.toList = is bs) (hm : bs.length = m) (hB : B ≤ w0.heap.size) (hl : l.length + m ≤ 1000000)
    (h : ∀ v' w', OwnI w' B v' (l ++ bs) → w0.grownBy w' v.ownBlock → K (a.put o.dst v') w') :
    if Region.wanted o (yielded ops a.tmps) = true then Oper.wp Tryz.prog o a (w0.alloc (.cells cs 3)).drew K Q else E := by
  have hw : Region.wanted o (yielded ops a.tmps) = true := by simp [Region.wanted, hgd]
  rw [if_pos hw]
  obtain ⟨i0, hi, hz0, hz1, hz2⟩ := info_parts info3
  obtain ⟨v', w', hr, h2, h3, _, _⟩ := run_append_own_at (P := Tryz.prog) (w0.alloc (.cells cs 3)).drew B 64 o.type 3 i0 (.int .i64 0) 1 8 Tryz.underlying64 hi hz0 hz1 hz2 rfl (by decide) v l.length (is l) (hown.alloc _)
    ⟨w0.heap.size, 0, none⟩ m m (is bs) (by rw [is_length, hm]; omega) (by rw [← hcs]; exact cells_new w0 cs 3) (oneI bs) (by unfold maxLen; omega) (by omega) (by show B ≤ (w0.alloc _).heap.size; simp; omega)
  unfold Oper.wp execOp
  simp only [ho, resolve, invoke, builtin, Sem.run_bind, Sem.run_pure, Result.andThen_ok, List.map_toArray, List.map_cons, List.map_nil, hs, hx, hr]
  refine h v' w' ?_ ⟨h3.os, h3.tape, h3.output, Nat.le_trans (by simp) h3.size, fun k hk hne => (h3.block k (by show k < (w0.alloc _).heap.size; simp; omega) hne).trans (Below.heap_alloc w0 _ k hk)⟩
  unfold OwnI
  rw [List.length_append, hm, is_append]
  exact h2

set_option maxRecDepth 20000 in
/-- append(out, xs...) of bytes that lie anywhere, or nowhere. -/
theorem catI {ops : Array Oper} {rest : List Oper} {o : Oper} {a : Act} {Q : Exit → Act → World → Prop} (w0 : World) (hgd : o.guard = none) (s x : Operand)
    (ho : o.op = .call { callee := .builtin .append, args := #[s, x], argTypes := #[64, 64] })
    (B C : Nat) (v : Value) (l bs : List Int) (A : Option Addr) (m c : Nat) (hs : a.eval s = v) (hx : a.eval x = .slice A m c)
    (hown : OwnI w0 B v l) (hr : Rd w0 C A m (is bs)) (hA : A = none → c = 0) (hB : B ≤ w0.heap.size) (hl : l.length + m ≤ 1000000)
    (h : ∀ v' w', OwnI w' B v' (l ++ bs) → w0.grownBy w' v.ownBlock → Fresh w0 v v' → wpList Tryz.prog ops Q rest (a.put o.dst v') w') :
    wpList Tryz.prog ops Q (o :: rest) a w0 := by
  obtain ⟨i0, hi, hz0, hz1, hz2⟩ := info_parts info3
  have hm : bs.length = m := by have := hr.1; rwa [is_length] at this
  rcases A with _ | ad
  · have h0 : m = 0 := by
      rcases Nat.eq_zero_or_pos m with h0 | h0
      · exact h0
      · obtain ⟨g, o, he, _⟩ := hr.2 h0; cases he
    subst h0
    have : bs = [] := List.eq_nil_of_length_eq_zero hm
    subst this
    refine wpList_append_own_none hgd s x 64 ho B 3 i0 1 Tryz.underlying64 hi v l.length (is l) hs hown (by rw [hx, hA rfl]) ?_
    exact h v w0 (by simpa using hown) (World.grownBy.refl _ _) (Fresh.same _ _)
  · refine wpList_append_own_at _ hgd s x 64 ho B 3 i0 (.int .i64 0) 1 8 Tryz.underlying64 hi hz0 hz1 hz2 rfl (by decide) v l.length (is l) hs hown
      ad m c (is bs) hx (by rw [is_length, hm]; omega) ?_ (oneI bs) (by unfold maxLen; omega) (by omega) hB ?_
    · intro j u hu
      have h0 : 0 < m := by
        rcases Nat.eq_zero_or_pos m with h0 | h0
        · subst h0
          have : bs = [] := List.eq_nil_of_length_eq_zero hm
          subst this
          simp [is] at hu
        · exact h0
      obtain ⟨g, o, he, _, hc⟩ := hr.2 h0
      injection he with he
      subst he
      rw [Go.WideShapes.add_plain]
      exact hc j u hu
    · intro v' w' h1 h2 _ h4
      refine h v' w' ?_ h2 (Fresh.of h4 (Nat.le_refl _))
      unfold OwnI
      rw [List.length_append, hm, is_append]
      exact h1

theorem OwnI.lit (w : World) (cs : Array Value) (l : List Int) (n : Nat) (h : cs.toList = is l) (hn : l.length = n) (hm : n ≤ 1000000) :
    OwnI (w.alloc (.cells cs 3)) w.heap.size (.slice (some ⟨w.heap.size, 0, none⟩) n n) l := by
  have hs : cs.size = n := by rw [← Array.length_toList, h, is_length, hn]
  refine ⟨by rw [is_length]; omega, .inr ⟨w.heap.size, n, cs, by rw [hn], Nat.le_refl _, heap_alloc_new w _, by omega, by unfold maxLen; omega, by omega, ?_⟩⟩
  rw [h, List.take_of_length_le (by rw [is_length]; omega)]

theorem OwnI.nil (w : World) (B : Nat) : OwnI w B (.slice none 0 0) [] := World.ownsRow_nil w B 3 1

theorem OwnI.grown {w w' : World} {B : Nat} {a : World} {v : Value} {l : List Int} (h : OwnI w B v l) (hg : w.grownBy w' v.ownBlock) (hb : Below B a w) (hB : B ≤ w.heap.size) : Below B a w' :=
  hb.grown hg hB fun k hk => (World.ownsRow.lt h k hk).1

/-- An array of n numbers. -/
def ia (f : Nat → Nat) (n : Nat) : Array Value := ((List.range n).map fun i => Value.int .i64 (f i : Int)).toArray
theorem ia_size (f : Nat → Nat) (n : Nat) : (ia f n).size = n := by simp [ia]
theorem ia_at (f : Nat → Nat) {n i : Nat} (h : i < n) : (ia f n)[i]? = some (.int .i64 (f i : Int)) := by simp [ia, List.getElem?_range h]
theorem ia_one (f : Nat → Nat) (n : Nat) : (ia f n).all (·.oneCell') = true := by
  rw [Array.all_eq_true_iff_forall_mem]
  intro u hu
  simp only [ia, List.mem_toArray, List.mem_map] at hu
  obtain ⟨i, _, rfl⟩ := hu
  rfl
def upd (f : Nat → Nat) (i v : Nat) : Nat → Nat := fun j => if j = i then v else f j
theorem upd_same (f : Nat → Nat) (i v : Nat) : upd f i v i = v := by simp [upd]
theorem upd_ne (f : Nat → Nat) {i j : Nat} (v : Nat) (h : j ≠ i) : upd f i v j = f j := by simp [upd, h]
theorem ia_set (f : Nat → Nat) (n i v : Nat) : (ia f n).setIfInBounds i (.int .i64 (v : Int)) = ia (upd f i v) n := by
  apply Array.ext_getElem?
  intro j
  rcases Nat.lt_or_ge j n with h | h
  · rw [ia_at _ h, Array.getElem?_setIfInBounds]
    by_cases hj : i = j
    · subst hj; rw [if_pos rfl, if_pos (by rw [ia_size]; exact h), upd_same]
    · rw [if_neg hj, ia_at _ h, upd_ne _ _ (Ne.symm hj)]
  · rw [Array.getElem?_eq_none (by rw [Array.size_setIfInBounds, ia_size]; exact h), Array.getElem?_eq_none (by rw [ia_size]; exact h)]
theorem ia_congr {f g : Nat → Nat} {n : Nat} (h : ∀ i, i < n → f i = g i) : ia f n = ia g n := by
  unfold ia
  congr 1
  apply List.map_congr_left
  intro i hi
  rw [h i (List.mem_range.1 hi)]
/-- Block g holds the numbers f. -/
theorem Row.ia {w : World} {g n t : Nat} {f : Nat → Nat} (h : Row w g (ia f n) t) {i : Nat} (hi : i < n) : w.cell? ⟨g, i, none⟩ = some (.int .i64 (f i : Int)) := by rw [h.cell, ia_at _ hi]
theorem Row.iaSet {w : World} {g n t : Nat} {f : Nat → Nat} (h : Row w g (Go.Proofs.YtpnnlhegncbfaaaGreatDoor.ia f n) t) (i v : Nat) (z : Int) (hz : z = (v : Int)) : Row (w.setCell ⟨g, i, none⟩ (.int .i64 z)) g (Go.Proofs.YtpnnlhegncbfaaaGreatDoor.ia (upd f i v) n) t := by
  subst hz; rw [← ia_set]; exact h.set i _
theorem info114 : (Tryz.prog.info? 141).map (fun i => (i.zero, i.size)) = some (some (.agg (ia (fun _ => 0) 16)), 16) := by kernel_rfl
theorem size114 : (Tryz.prog.info? 141).map (·.size) = some 16 := by kernel_rfl
theorem info116 : (Tryz.prog.info? 145).map (fun i => (i.zero, i.size)) = some (some (.agg (ia (fun _ => 0) 17)), 17) := by kernel_rfl
theorem size116 : (Tryz.prog.info? 145).map (·.size) = some 17 := by kernel_rfl
theorem built114 : Tryz.prog.built 141 [] = some (ia (fun _ => 0) 16) := by kernel_rfl
theorem built116 : Tryz.prog.built 145 [] = some (ia (fun _ => 0) 17) := by kernel_rfl
/-- A new row of zeros, as a list of cells. -/
theorem zeros_ia (n : Nat) : madeCells #[.int .i64 0] n = ia (fun _ => 0) n := by
  apply Array.toList_inj.1
  rw [toList_madeCells_one]
  simp [ia, List.map_const']
theorem Row.rdI {w : World} {g n t : Nat} {f : Nat → Nat} (h : Row w g (Go.Proofs.YtpnnlhegncbfaaaGreatDoor.ia f n) t) {B : Nat} (hB : g < B) : Rd w B (some ⟨g, 0, none⟩) n (Go.Proofs.YtpnnlhegncbfaaaGreatDoor.ia f n).toList := by
  refine ⟨by simp [ia_size], fun _ => ⟨g, 0, rfl, hB, fun j u hu => ?_⟩⟩
  rw [h.cell, Nat.zero_add]
  simpa using hu

section
variable {P : Program} {ops : Array Oper} {rest : List Oper} {o : Oper} {a : Act} {Q : Exit → Act → World → Prop}
/-- A whole row loaded by an operation under a guard. -/
theorem load_row_w {w : World} (hw : Region.wanted o (yielded ops a.tmps) = true) (ty : TypeId) (x : Operand) (ho : o.op = .load ty x) (g : Nat) (hx : a.eval x = .pointer (some ⟨g, 0, none⟩)) (t : TypeId) (cs : Array Value) (d : TypeDesc)
    (hg : Row w g cs t) (hu : P.underlying ty = some d) (hd : (match d with | .struct _ | .array _ _ => true | _ => false) = true) (n : Nat) (hi : (P.info? ty).map (·.size) = some n) (hn : cs.size = n)
    (h : RowKit.Hid True → wpList P ops Q rest (a.put o.dst (.agg cs)) w) : wpList P ops Q (o :: rest) a w := by
  refine wpList_step fun K hK => ?_
  rw [if_pos hw]
  unfold Oper.wp execOp
  simp only [ho, hx, Instr.loadAt, Instr.sureAddr, Sem.run_bind, Sem.run_pure, Result.andThen_ok, run_loadVar_row w g t ty cs (0, 0) d hg hu hd (by rw [hi, hn])]
  exact hK _ _ (h (Lib.hid trivial))
end
end Go.Proofs.YtpnnlhegncbfaaaGreatDoor
namespace Go.Proofs.YtpnnlhegncbfaaaGreatDoor
set_option maxRecDepth 20000
open Go.RowKit

section
variable {P : Program} {ops : Array Oper} {rest : List Oper} {a : Act} {Q : Exit → Act → World → Prop}
theorem halt_build (ty : TypeId) {w : World} {dst : Option Tmp} {x : Array (Nat × Operand)} {t : TypeId} {pos : String} {aft : Array Edge} {g : Option (Nat × Bool)} (h : RowKit.Hid (wpList P ops Q (⟨dst, .build ty x, t, pos, aft, g⟩ :: rest) a w)) : wpList P ops Q (⟨dst, .build ty x, t, pos, aft, g⟩ :: rest) a w := h
theorem halt_box (ty : TypeId) {w : World} {dst : Option Tmp} {x : Operand} {t : TypeId} {pos : String} {aft : Array Edge} {g : Option (Nat × Bool)} (h : RowKit.Hid (wpList P ops Q (⟨dst, .box ty x, t, pos, aft, g⟩ :: rest) a w)) : wpList P ops Q (⟨dst, .box ty x, t, pos, aft, g⟩ :: rest) a w := h
end

/-- Each number is from 0 to 15. -/
def rng (L : List Int) : Prop := ∀ x ∈ L, 0 ≤ x ∧ x ≤ 15
instance (L : List Int) : Decidable (rng L) := by unfold rng; infer_instance
def nats (L : List Int) : List Nat := L.map Int.toNat
def cE (L : List Int) : Nat := if rng L then 0 else 1
def cF (L : List Int) : Nat → Nat := if rng L then cnt (nats L) else fun _ => 0
theorem rng_take {L : List Int} {k : Nat} {x : Int} (h : rng (L.take k)) (hk : L[k]? = some x) (hx : 0 ≤ x ∧ x ≤ 15) : rng (L.take (k + 1)) := by
  rw [take_more hk]
  intro y hy
  rcases List.mem_append.1 hy with h1 | h1
  · exact h y h1
  · rw [List.mem_singleton.1 h1]; exact hx
theorem cnt_nats_more {L : List Int} {k v : Nat} (hk : L[k]? = some (v : Int)) : cnt (nats (L.take (k + 1))) = upd (cnt (nats (L.take k))) v (cnt (nats (L.take k)) v + 1) := by
  funext j
  rw [take_more hk]
  unfold nats
  rw [List.map_append, List.map_singleton, Int.toNat_natCast, cnt_snoc]
  by_cases h : v = j
  · subst h; rw [if_pos rfl, upd_same]
  · rw [if_neg h, upd_ne _ _ (Ne.symm h)]; rfl
theorem not_rng {L : List Int} {k : Nat} {x : Int} (hk : L[k]? = some x) (hx : ¬ (0 ≤ x ∧ x ≤ 15)) : ¬ rng L := fun h => hx (h x (List.mem_of_getElem? hk))

/-- Within the count. -/
structure CntI (w wr : World) (G H : Nat) (L : List Int) (k : Nat) : Prop where
  low : rng (L.take k)
  row : Row wr H (ia (cnt (nats (L.take k))) 16) 141
  res : Row wr G (ia (fun _ => 0) 16) 141
  below : Below G w wr

set_option maxHeartbeats 1000000 in
set_option maxRecDepth 10000 in
theorem counts_any (A : Option Addr) (n c : Nat) (L : List Int) (w : World) (hr : Rd w w.heap.size A n (is L)) (hn : n ≤ 1000) :
    Calls Tryz.prog 88 #[.slice A n c] w fun e w' => e = .returned (.tuple #[.agg (ia (cF L) 16), errV (cE L)]) ∧ Below w.heap.size w w' := by
  have HR := Lib.hid hr
  have HN := Lib.hid hn
  clear hr hn
  go_enter Tryz.func88, Tryz.ntmps88
  go_upto_region 0 with fail
  go_step
  refine alloc_row rfl 141 rfl _ 16 info114 ?_
  intro w1 r1 g1 s1
  go_wp2_with (with_reducible refine halt_alloc 141 ?_)
  refine Lib.hid ?_
  refine alloc_row rfl 141 rfl _ 16 info114 ?_
  intro w2 r2 g2 s2
  have hb : Below w.heap.size w w2 := (below_make g1).grown g2 (by omega) (fun _ h => by cases h)
  have HI : RowKit.Hid (CntI w w2 w.heap.size w1.heap.size L 0) := Lib.hid ⟨fun x hx => by simp at hx, r2, r1.grown g2 (by simp), hb⟩
  have HH : RowKit.Hid (w1.heap.size = w.heap.size + 1) := Lib.hid s1
  have HL : RowKit.Hid (L.length = n) := Lib.hid (by have := HR.out.1; rwa [is_length] at this)
  clear r1 g1 s1 r2 g2 s2 hb
  generalize w1.heap.size = H at HI HH ⊢
  go_wp2_with fail
  go_loopw [9] (fun i wr => ∃ k : Nat, k ≤ n ∧ i = .int .i64 k ∧ CntI w wr w.heap.size H L k) (fun i _ => n - (intOf i).toNat)
  case atStart => exact ⟨0, by omega, rfl, HI.out⟩
  case round =>
    obtain ⟨k, hk, rfl, hI⟩ := hrel
    have HI := Lib.hid hI
    clear hI
    have hk9 : k ≤ 1000 := Nat.le_trans hk HN.out
    by_cases hkn : k < n
    · have hd : decide ((k : Int) < (n : Int)) = true := decide_eq_true (by omega)
      obtain ⟨x, HX⟩ : ∃ x, RowKit.Hid (L[k]? = some x) := ⟨_, Lib.hid (List.getElem?_eq_getElem (by rw [HL.out]; exact hkn))⟩
      obtain ⟨b, o, rfl, hb, hc⟩ := HR.out.atI HX.out
      replace hc : wr.cell? ⟨b, o + k, none⟩ = some (.int .i64 x) := (HI.out.below.cell (p := ⟨b, o + k, none⟩) hb).trans hc
      clear hb
      by_cases hx : 0 ≤ x ∧ x ≤ 15
      · obtain ⟨v, rfl⟩ : ∃ v : Nat, x = (v : Int) := ⟨x.toNat, by omega⟩
        have hv : v < 16 := by omega
        have d1 : decide ((v : Int) < 0) = false := decide_eq_false (by omega)
        have d2 : decide (15 < (v : Int)) = false := decide_eq_false (by omega)
        have hcv := HI.out.row.ia hv
        have hfv := HI.out.row.thawed v
        have HLow := Lib.hid (rng_take HI.out.low HX.out hx)
        have HM := Lib.hid (cnt_nats_more HX.out)
        have hle : cnt (nats (L.take k)) v ≤ 1000 := Nat.le_trans (cnt_le _ _) (by unfold nats; rw [List.length_map, List.length_take]; have := HN.out; omega)
        obtain ⟨q, HQ⟩ : ∃ q, RowKit.Hid (cnt (nats (L.take k)) v = q) := ⟨_, Lib.hid rfl⟩
        rw [HQ.out] at hcv hle
        clear hx
        go_wp2_with fail
        go_roundw
        case rel =>
          refine ⟨k + 1, by omega, by simp, HLow.out, ?_, HI.out.res.other (by have := HH.out; omega) _ _, HI.out.below.grown (grown_setCell _ _ _ _) HI.out.below.size (fun j h => by injection h with h; have := HH.out; omega)⟩
          rw [HM.out]
          exact HI.out.row.iaSet v _ _ (by rw [HQ.out]; omega)
        case measure => simp [intOf]; omega
      · have HZ : RowKit.Hid (cF L = (fun _ => 0) ∧ cE L = 1) := Lib.hid (by unfold cF cE; rw [if_neg (not_rng HX.out hx), if_neg (not_rng HX.out hx)]; exact ⟨rfl, rfl⟩)
        by_cases h0 : x < 0
        · have d1 : decide (x < 0) = true := decide_eq_true h0
          clear hx h0
          go_wp2_with (with_reducible refine halt_build 141 ?_)
          refine Lib.hid ?_
          refine build_row rfl 141 #[] rfl (ia (fun _ => 0) 16) (by simpa using built114) ?_
          intro _
          go_wp2_with (with_reducible refine halt_store 141 ?_)
          refine Lib.hid ?_
          refine store_row rfl 141 _ _ rfl w.heap.size (ia (fun _ => 0) 16) rfl rfl 141 _ HI.out.res 16 size114 (ia_size _ _) (ia_size _ _) (ia_one _ _) ?_
          intro w9 r9 g9 s9
          have HB9 := Lib.hid (HI.out.below.grown g9 HI.out.below.size (fun k h => by injection h with h; omega))
          have R9 := Lib.hid r9
          clear r9 g9 s9
          go_wp2_with fail
          refine bodyPost_ret (v := .tuple #[.agg (ia (fun _ => 0) 16), .iface 39 (.int .i64 1)]) ?_ rfl ⟨by rw [HZ.out.1, HZ.out.2]; rfl, HB9.out⟩
          exact results_two rfl _ _ w.heap.size 141 _ _ _ rfl rfl R9.out Tryz.underlying141 rfl (by rw [size114, ia_size])
        · have d1 : decide (x < 0) = false := decide_eq_false h0
          have d2 : decide (15 < x) = true := decide_eq_true (by omega)
          clear hx h0
          go_wp2_with (with_reducible refine halt_build 141 ?_)
          refine Lib.hid ?_
          refine build_row rfl 141 #[] rfl (ia (fun _ => 0) 16) (by simpa using built114) ?_
          intro _
          go_wp2_with (with_reducible refine halt_store 141 ?_)
          refine Lib.hid ?_
          refine store_row rfl 141 _ _ rfl w.heap.size (ia (fun _ => 0) 16) rfl rfl 141 _ HI.out.res 16 size114 (ia_size _ _) (ia_size _ _) (ia_one _ _) ?_
          intro w9 r9 g9 s9
          have HB9 := Lib.hid (HI.out.below.grown g9 HI.out.below.size (fun k h => by injection h with h; omega))
          have R9 := Lib.hid r9
          clear r9 g9 s9
          go_wp2_with fail
          refine bodyPost_ret (v := .tuple #[.agg (ia (fun _ => 0) 16), .iface 39 (.int .i64 1)]) ?_ rfl ⟨by rw [HZ.out.1, HZ.out.2]; rfl, HB9.out⟩
          exact results_two rfl _ _ w.heap.size 141 _ _ _ rfl rfl R9.out Tryz.underlying141 rfl (by rw [size114, ia_size])
    · have hkn : k = n := by omega
      subst hkn
      have hd : decide ((k : Int) < (k : Int)) = false := decide_eq_false (by omega)
      have hrow := HI.out.row
      have hall : L.take k = L := List.take_of_length_le (by rw [HL.out]; exact Nat.le_refl _)
      have HZ : RowKit.Hid (cF L = cnt (nats L) ∧ cE L = 0) := Lib.hid (by
        have := HI.out.low
        rw [hall] at this
        unfold cF cE
        rw [if_pos this, if_pos this]
        exact ⟨rfl, rfl⟩)
      rw [hall] at hrow
      have HRow := Lib.hid hrow
      clear hrow hall
      go_wp2_with (with_reducible refine halt_load 141 ?_)
      refine Lib.hid ?_
      refine load_row rfl 141 _ rfl H rfl 141 _ _ HRow.out Tryz.underlying141 rfl 16 size114 (ia_size _ _) ?_
      intro _
      refine store_row rfl 141 _ _ rfl w.heap.size (ia (cnt (nats L)) 16) rfl rfl 141 _ HI.out.res 16 size114 (ia_size _ _) (ia_size _ _) (ia_one _ _) ?_
      intro w9 r9 g9 s9
      have HB9 := Lib.hid (HI.out.below.grown g9 HI.out.below.size (fun k h => by injection h with h; omega))
      have R9 := Lib.hid r9
      clear r9 g9 s9
      go_wp2_with fail
      refine bodyPost_ret (v := .tuple #[.agg (ia (cnt (nats L)) 16), .nilIface]) ?_ rfl ⟨by rw [HZ.out.1, HZ.out.2]; rfl, HB9.out⟩
      exact results_two rfl _ _ w.heap.size 141 _ _ _ rfl rfl R9.out Tryz.underlying141 rfl (by rw [size114, ia_size])
end Go.Proofs.YtpnnlhegncbfaaaGreatDoor
