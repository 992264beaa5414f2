/- Steps of regions that draw, over an act that is a variable: calls and whole rows, guarded or not. -/
import Derived.Test.YtbklcelnnmhgkaaDoorReg
import Derived.Test.YtbklcelnnmhgkaaDoorRch
import Derived.Test.YtbklcelnnmhgkaaDoorVerifies
namespace Go.Proofs.YtbklcelnnmhgkaaDoor
open Go.RowKit

theorem wanted_at {ops : Array Oper} {o : Oper} {a : Act} {j d : Nat} {b : Bool} (hg : o.guard = some (j, b)) (hd : (ops[j]?).bind (·.dst) = some d) (he : a.eval (.tmp d) = .bool b) (hs : d < a.tmps.size) : Region.wanted o (yielded ops a.tmps) = true := by
  have h1 : a.tmps[d]? = some (.bool b) := by
    have : a.tmps[d]?.getD undef = .bool b := by simpa [Act.eval] using he
    rw [Array.getElem?_eq_getElem hs] at this ⊢
    simpa using this
  simp [Region.wanted, hg, yielded, hd, h1]

section
variable {ops : Array Oper} {o : Oper} {a : Act} {K : Act → World → Prop} {Q : Exit → Act → World → Prop} {E : Prop} {w : World}
theorem step_load_g {P : Program} (hw : Region.wanted o (yielded ops a.tmps) = true) (ty : TypeId) (x : Operand) (ho : o.op = .load ty x) (g : Nat) (hx : a.eval x = .pointer (some ⟨g, 0, none⟩)) (t : TypeId) (cs : Array Value) (d : TypeDesc)
    (hg : Row w g cs t) (hu : P.underlying ty = some d) (hd : (match d with | .struct _ | .array _ _ => true | _ => false) = true) (hi : (P.info? ty).map (·.size) = some cs.size)
    (h : K (a.put o.dst (.agg cs)) w) : if Region.wanted o (yielded ops a.tmps) = true then Oper.wp P o a w K Q else E := by
  rw [if_pos hw]
  unfold Oper.wp execOp
  simp only [ho, hx, Instr.loadAt, Instr.sureAddr, Sem.run_bind, Sem.run_pure, Result.andThen_ok, run_loadVar_row w g t ty cs (0, 0) d hg hu hd hi]
  exact h
theorem step_call1 (hw : Region.wanted o (yielded ops a.tmps) = true) (f : Nat) (vs : Array Value) (hrun : ∀ w, (execOp a.eval o).run Tryd.prog w = .ok (.enter f vs) w)
    (h : Calls Tryd.prog f vs w fun
      | .returned v, w'' => K (a.put o.dst v) w''
      | .panicked chain, w'' => Q (.panic chain) a w''
      | .outgrown, _ => LetsOut Q) : if Region.wanted o (yielded ops a.tmps) = true then Oper.wp Tryd.prog o a w K Q else E := by
  rw [if_pos hw]
  unfold Oper.wp
  rw [hrun w, Oper.upon_enter]
  exact h
end

theorem run_eql (a : Act) (o : Oper) (x y : Operand) (ho : o.op = .binOp .eql 9 x y 9) (N : ByteArray) (e1 : a.eval x = .string N) (e2 : a.eval y = .string N) (w : World) : (execOp a.eval o).run Tryd.prog w = .ok (.value (.bool true)) w := by
  unfold execOp
  simp only [ho, e1, e2]
  go_simp
theorem run_slice24 (a : Act) (o : Oper) (x : Operand) (ho : o.op = .slice 24 x none none none) (g : Nat) (e1 : a.eval x = PG g 0) (w : World) : (execOp a.eval o).run Tryd.prog w = .ok (.value (.slice (some ⟨g, 0, none⟩) 32 32)) w := by
  unfold execOp
  simp only [ho, e1]
  go_simp
theorem run_pre (a : Act) (o : Oper) (y : Operand) (ho : o.op = .binOp .add 9 (.const (.string ⟨#[115, 104, 97, 50, 53, 54, 58]⟩)) y 9) (M : List UInt8) (hM : M.length = 32) (e1 : a.eval y = .string ⟨(hexL M).toArray⟩) (w : World) : (execOp a.eval o).run Tryd.prog w = .ok (.value (.string (nameP M))) w := by
  have hsz : ¬ 9223372036854775807 < 7 + (hexL M).length := by rw [hexL_length, hM]; decide
  have hap := pre_append (hexL M)
  have hn : (⟨(preL ++ hexL M).toArray⟩ : ByteArray) = nameP M := rfl
  rw [hn] at hap
  unfold execOp
  simp only [ho, e1]
  go_simp
theorem run_pick (a : Act) (o : Oper) (x y z : Operand) (ho : o.op = .pick x y z) (e1 : a.eval x = .bool true) (e2 : a.eval y = .bool true) (w : World) : (execOp a.eval o).run Tryd.prog w = .ok (.value (.bool true)) w := by
  unfold execOp
  simp only [ho, e1, e2]
  go_simp
theorem results_at {fn : Func} {t : Tmp} {a : Act} {v : Value} {w : World} (h : fn.results = #[.tmp t]) (e : a.eval (.tmp t) = v) : (results fn a.tmps).run Tryd.prog w = .ok v w := by
  have e' : a.tmps.getD t undef = v := by simpa [Act.eval] using e
  rw [results_tmp h, e']
theorem run_call8 (ρ : Operand → Value) (o : Oper) (x : Operand) (v : Value) (ho : o.op = .call { callee := .value (.func 8), args := #[x], argTypes := #[22] }) (hf : ρ (.func 8) = .func (.func 8) #[] #[]) (e : ρ x = v) (w : World) : (execOp ρ o).run Tryd.prog w = .ok (.enter 8 #[v]) w := by
  unfold execOp
  simp only [ho]
  go_simp
theorem run_call9 (ρ : Operand → Value) (o : Oper) (x : Operand) (v : Value) (ho : o.op = .call { callee := .value (.func 9), args := #[x], argTypes := #[22] }) (hf : ρ (.func 9) = .func (.func 9) #[] #[]) (e : ρ x = v) (w : World) : (execOp ρ o).run Tryd.prog w = .ok (.enter 9 #[v]) w := by
  unfold execOp
  simp only [ho]
  go_simp
theorem run_call10 (ρ : Operand → Value) (o : Oper) (x : Operand) (v : Value) (ho : o.op = .call { callee := .value (.func 10), args := #[x], argTypes := #[24] }) (hf : ρ (.func 10) = .func (.func 10) #[] #[]) (e : ρ x = v) (w : World) : (execOp ρ o).run Tryd.prog w = .ok (.enter 10 #[v]) w := by
  unfold execOp
  simp only [ho]
  go_simp
theorem run_call11 (ρ : Operand → Value) (o : Oper) (x : Operand) (v : Value) (ho : o.op = .call { callee := .value (.func 11), args := #[x], argTypes := #[22] }) (hf : ρ (.func 11) = .func (.func 11) #[] #[]) (e : ρ x = v) (w : World) : (execOp ρ o).run Tryd.prog w = .ok (.enter 11 #[v]) w := by
  unfold execOp
  simp only [ho]
  go_simp
end Go.Proofs.YtbklcelnnmhgkaaDoor
