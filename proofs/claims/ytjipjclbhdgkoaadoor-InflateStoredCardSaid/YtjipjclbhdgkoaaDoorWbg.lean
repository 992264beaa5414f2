/- The append laws of bytes, for longer rows. -/
import Derived.Test.YtjipjclbhdgkoaaDoorWords
namespace Go.Proofs.YtjipjclbhdgkoaaDoor
open Go.RowKit

/-- append(out, b..) of bytes that were just laid in a block of their own. -/
theorem push8b {ops : Array Oper} {rest : List Oper} {o : Oper} {a : Act} {Q : Exit → Act → World → Prop} (w0 : World) (hgd : o.guard = none) (s x : Operand)
    (ho : o.op = .call { callee := .builtin .append, args := #[s, x], argTypes := #[22, 22] })
    (B : Nat) (v : Value) (l bs : List UInt8) (cs : Array Value) (m : Nat) (hs : a.eval s = v) (hx : a.eval x = .slice (some ⟨w0.heap.size, 0, none⟩) m m)
    (hown : Own w0 B v l) (hcs : cs.toList = us bs) (hm : bs.length = m) (hB : B ≤ w0.heap.size) (hl : l.length + m ≤ 4000000)
    (h : ∀ v' w', Own w' B v' (l ++ bs) → w0.grownBy w' v.ownBlock → Fresh w0 v v' → wpList Tryd.prog ops Q rest (a.put o.dst v') w') :
    wpList Tryd.prog ops Q (o :: rest) a (w0.alloc (.cells cs 5)) := by
  obtain ⟨i0, hi, hz0, hz1, hz2⟩ := info_parts info5
  refine wpList_append_own_at _ hgd s x 22 ho B 5 i0 (.int .u8 0) 1 1 Tryd.underlying22 hi hz0 hz1 hz2 rfl (by decide) v l.length (us l) hs (hown.alloc _)
    ⟨w0.heap.size, 0, none⟩ m m (us bs) hx (by rw [us_length, hm]; omega) ?_ (one8 bs) (by unfold maxLen; omega) (by omega) (by simp; omega) ?_
  · rw [← hcs]; exact cells_new w0 cs 5
  · intro v' w' h1 h2 _ h4
    refine h v' w' ?_ ((World.grownBy_alloc w0 _ _).trans h2) (Fresh.of h4 (by simp))
    unfold Own
    rw [List.length_append, hm, us_append]
    exact h1

/-- The same in a region that draws its order. -/
theorem step8b {ops : Array Oper} {o : Oper} {a : Act} {K : Act → World → Prop} {Q : Exit → Act → World → Prop} {E : Prop} (w0 : World) (hgd : o.guard = none) (s x : Operand)
    (ho : o.op = .call { callee := .builtin .append, args := #[s, x], argTypes := #[22, 22] })
    (B : Nat) (v : Value) (l bs : List UInt8) (cs : Array Value) (m : Nat) (hs : a.eval s = v) (hx : a.eval x = .slice (some ⟨w0.heap.size, 0, none⟩) m m)
    (hown : Own w0 B v l) (hcs : cs.toList = us bs) (hm : bs.length = m) (hB : B ≤ w0.heap.size) (hl : l.length + m ≤ 4000000)
    (h : ∀ v' w', Own w' B v' (l ++ bs) → w0.grownBy w' v.ownBlock → K (a.put o.dst v') w') :
    if Region.wanted o (yielded ops a.tmps) = true then Oper.wp Tryd.prog o a (w0.alloc (.cells cs 5)).drew K Q else E := by
  have hw : Region.wanted o (yielded ops a.tmps) = true := by simp [Region.wanted, hgd]
  rw [if_pos hw]
  obtain ⟨i0, hi, hz0, hz1, hz2⟩ := info_parts info5
  obtain ⟨v', w', hr, h2, h3, _, _⟩ := run_append_own_at (P := Tryd.prog) (w0.alloc (.cells cs 5)).drew B 22 o.type 5 i0 (.int .u8 0) 1 1 Tryd.underlying22 hi hz0 hz1 hz2 rfl (by decide) v l.length (us l) (hown.alloc _)
    ⟨w0.heap.size, 0, none⟩ m m (us bs) (by rw [us_length, hm]; omega) (by rw [← hcs]; exact cells_new w0 cs 5) (one8 bs) (by unfold maxLen; omega) (by omega) (by show B ≤ (w0.alloc _).heap.size; simp; omega)
  unfold Oper.wp execOp
  simp only [ho, resolve, invoke, builtin, Sem.run_bind, Sem.run_pure, Result.andThen_ok, List.map_toArray, List.map_cons, List.map_nil, hs, hx, hr]
  refine h v' w' ?_ ⟨h3.os, h3.tape, h3.output, Nat.le_trans (by simp) h3.size, fun k hk hne => (h3.block k (by show k < (w0.alloc _).heap.size; simp; omega) hne).trans (Below.heap_alloc w0 _ k hk)⟩
  unfold Own
  rw [List.length_append, hm, us_append]
  exact h2

/-- The same in a region that draws its order. -/
theorem step8c {ops : Array Oper} {o : Oper} {a : Act} {K : Act → World → Prop} {Q : Exit → Act → World → Prop} {E : Prop} (w0 : World) (hgd : o.guard = none) (s x : Operand)
    (ho : o.op = .call { callee := .builtin .append, args := #[s, x], argTypes := #[22, 22] })
    (B : Nat) (v : Value) (l bs : List UInt8) (cs : Array Value) (m : Nat) (hs : a.eval s = v) (hx : a.eval x = .slice (some ⟨w0.heap.size, 0, none⟩) m m)
    (hown : Own w0 B v l) (hcs : cs.toList = us bs) (hm : bs.length = m) (hB : B ≤ w0.heap.size) (hl : l.length + m ≤ 4000000)
    (h : ∀ v' w', Own w' B v' (l ++ bs) → w0.grownBy w' v.ownBlock → Fresh w0 v v' → K (a.put o.dst v') w') :
    if Region.wanted o (yielded ops a.tmps) = true then Oper.wp Tryd.prog o a (w0.alloc (.cells cs 5)).drew K Q else E := by
  have hw : Region.wanted o (yielded ops a.tmps) = true := by simp [Region.wanted, hgd]
  rw [if_pos hw]
  obtain ⟨i0, hi, hz0, hz1, hz2⟩ := info_parts info5
  obtain ⟨v', w', hr, h2, h3, _, h5⟩ := run_append_own_at (P := Tryd.prog) (w0.alloc (.cells cs 5)).drew B 22 o.type 5 i0 (.int .u8 0) 1 1 Tryd.underlying22 hi hz0 hz1 hz2 rfl (by decide) v l.length (us l) (hown.alloc _)
    ⟨w0.heap.size, 0, none⟩ m m (us bs) (by rw [us_length, hm]; omega) (by rw [← hcs]; exact cells_new w0 cs 5) (one8 bs) (by unfold maxLen; omega) (by omega) (by show B ≤ (w0.alloc _).heap.size; simp; omega)
  unfold Oper.wp execOp
  simp only [ho, resolve, invoke, builtin, Sem.run_bind, Sem.run_pure, Result.andThen_ok, List.map_toArray, List.map_cons, List.map_nil, hs, hx, hr]
  refine h v' w' ?_ ⟨h3.os, h3.tape, h3.output, Nat.le_trans (by simp) h3.size, fun k hk hne => (h3.block k (by show k < (w0.alloc _).heap.size; simp; omega) hne).trans (Below.heap_alloc w0 _ k hk)⟩ (Fresh.of h5 (by show w0.heap.size ≤ (w0.alloc _).heap.size; simp))
  unfold Own
  rw [List.length_append, hm, us_append]
  exact h2

set_option maxRecDepth 20000 in
/-- append(out, xs...) of bytes that lie anywhere, or nowhere. -/
theorem cat8b {ops : Array Oper} {rest : List Oper} {o : Oper} {a : Act} {Q : Exit → Act → World → Prop} (w0 : World) (hgd : o.guard = none) (s x : Operand)
    (ho : o.op = .call { callee := .builtin .append, args := #[s, x], argTypes := #[22, 22] })
    (B C : Nat) (v : Value) (l bs : List UInt8) (A : Option Addr) (m c : Nat) (hs : a.eval s = v) (hx : a.eval x = .slice A m c)
    (hown : Own w0 B v l) (hr : Rd w0 C A m (us bs)) (hA : A = none → c = 0) (hB : B ≤ w0.heap.size) (hl : l.length + m ≤ 4000000)
    (h : ∀ v' w', Own w' B v' (l ++ bs) → w0.grownBy w' v.ownBlock → Fresh w0 v v' → wpList Tryd.prog ops Q rest (a.put o.dst v') w') :
    wpList Tryd.prog ops Q (o :: rest) a w0 := by
  obtain ⟨i0, hi, hz0, hz1, hz2⟩ := info_parts info5
  have hm : bs.length = m := by have := hr.1; rwa [us_length] at this
  rcases A with _ | ad
  · have h0 : m = 0 := by
      rcases Nat.eq_zero_or_pos m with h0 | h0
      · exact h0
      · obtain ⟨g, o, he, _⟩ := hr.2 h0; cases he
    subst h0
    have : bs = [] := List.eq_nil_of_length_eq_zero hm
    subst this
    refine wpList_append_own_none hgd s x 22 ho B 5 i0 1 Tryd.underlying22 hi v l.length (us l) hs hown (by rw [hx, hA rfl]) ?_
    exact h v w0 (by simpa using hown) (World.grownBy.refl _ _) (Fresh.same _ _)
  · refine wpList_append_own_at _ hgd s x 22 ho B 5 i0 (.int .u8 0) 1 1 Tryd.underlying22 hi hz0 hz1 hz2 rfl (by decide) v l.length (us l) hs hown
      ad m c (us bs) hx (by rw [us_length, hm]; omega) ?_ (one8 bs) (by unfold maxLen; omega) (by omega) hB ?_
    · intro j u hu
      have h0 : 0 < m := by
        rcases Nat.eq_zero_or_pos m with h0 | h0
        · subst h0
          have : bs = [] := List.eq_nil_of_length_eq_zero hm
          subst this
          simp [us] at hu
        · exact h0
      obtain ⟨g, o, he, _, hc⟩ := hr.2 h0
      injection he with he
      subst he
      rw [Go.WideShapes.add_plain]
      exact hc j u hu
    · intro v' w' h1 h2 _ h4
      refine h v' w' ?_ h2 (Fresh.of h4 (Nat.le_refl _))
      unfold Own
      rw [List.length_append, hm, us_append]
      exact h1

end Go.Proofs.YtjipjclbhdgkoaaDoor
