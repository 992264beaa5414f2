/- append(out, b...) of a slice's bytes, in a region that draws its order. -/
import Derived.Test.YtpnnlhegncbfaaaGreatDoorGroupL
namespace Go.Proofs.YtpnnlhegncbfaaaGreatDoor
set_option maxRecDepth 20000
open Go.RowKit

theorem stepcat {ops : Array Oper} {o : Oper} {a : Act} {K : Act → World → Prop} {Q : Exit → Act → World → Prop} {E : Prop} (w0 : World) (hgd : o.guard = none) (s x : Operand)
    (ho : o.op = .call { callee := .builtin .append, args := #[s, x], argTypes := #[22, 22] })
    (B C : Nat) (v : Value) (l bs : List UInt8) (A : Option Addr) (m c : Nat) (hs : a.eval s = v) (hx : a.eval x = .slice A m c)
    (hown : Own w0 B v l) (hr : Rd w0 C A m (us bs)) (hA : A = none → c = 0) (hB : B ≤ w0.heap.size) (hl : l.length + m ≤ 4000000)
    (h : ∀ v' w', Own w' B v' (l ++ bs) → w0.grownBy w' v.ownBlock → Fresh w0 v v' → K (a.put o.dst v') w') :
    if Region.wanted o (yielded ops a.tmps) = true then Oper.wp Tryz.prog o a w0 K Q else E := by
  have hw : Region.wanted o (yielded ops a.tmps) = true := by simp [Region.wanted, hgd]
  rw [if_pos hw]
  obtain ⟨i0, hi, hz0, hz1, hz2⟩ := info_parts info5
  have hm : bs.length = m := by have := hr.1; rwa [us_length] at this
  rcases A with _ | ad
  · have h0 : m = 0 := by
      rcases Nat.eq_zero_or_pos m with h0 | h0
      · exact h0
      · obtain ⟨g, o, he, _⟩ := hr.2 h0; cases he
    subst h0
    have : bs = [] := List.eq_nil_of_length_eq_zero hm
    subst this
    have hrun := run_append_owned_none (P := Tryz.prog) (w := w0) B 22 o.type 5 i0 1 Tryz.underlying22 hi v l.length (us l) hown
    have hc := hA rfl
    subst hc
    unfold Oper.wp
    simp [execOp, ho, resolve, invoke, builtin, hs, hx, hrun, Result.andThen]
    exact h v w0 (by simpa using hown) (World.grownBy.refl _ _) (Fresh.same _ _)
  · obtain ⟨v', w', hrn, h2, h3, _, h5⟩ := run_append_own_at (P := Tryz.prog) w0 B 22 o.type 5 i0 (.int .u8 0) 1 1 Tryz.underlying22 hi hz0 hz1 hz2 rfl (by decide) v l.length (us l) hown
      ad m c (us bs) (by rw [us_length, hm]; omega) (fun j u hu => by
        have h0 : 0 < m := by
          rcases Nat.eq_zero_or_pos m with h0 | h0
          · subst h0
            have : bs = [] := List.eq_nil_of_length_eq_zero hm
            subst this
            simp [us] at hu
          · exact h0
        obtain ⟨g, o, he, _, hc⟩ := hr.2 h0
        injection he with he
        subst he
        rw [Go.WideShapes.add_plain]
        exact hc j u hu) (one8 bs) (by unfold maxLen; omega) (by omega) hB
    unfold Oper.wp execOp
    simp only [ho, resolve, invoke, builtin, Sem.run_bind, Sem.run_pure, Result.andThen_ok, List.map_toArray, List.map_cons, List.map_nil, hs, hx, hrn]
    refine h v' w' ?_ h3 (Fresh.of h5 (Nat.le_refl _))
    unfold Own
    rw [List.length_append, hm, us_append]
    exact h2
end Go.Proofs.YtpnnlhegncbfaaaGreatDoor
