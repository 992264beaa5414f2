
/- The statement of New that makes the Code: a region that draws its order, walked over an act that is a variable. -/
import Derived.Test.YtnadnokjhinmcaaNmb
namespace Go.Proofs.Ytnadnokjhinmcaa
open Go.RowKit

theorem ev_same (a : Act) (i : Nat) (v : Value) (h : i < a.tmps.size) : (a.put (some i) v).eval (.tmp i) = v := by
  simp [Act.put, Act.eval, h]
theorem ev_ne (a : Act) (i j : Nat) (v : Value) (h : i ≠ j) : (a.put (some i) v).eval (.tmp j) = a.eval (.tmp j) := by
  simp [Act.put, Act.eval, h]
theorem put_size (a : Act) (i : Nat) (v : Value) : (a.put (some i) v).tmps.size = a.tmps.size := by simp [Act.put]
abbrev PG (g : Nat) (o : Nat) : Value := .pointer (some ⟨g, o, none⟩)
section
variable {ops : Array Oper} {o : Oper} {a : Act} {K : Act → World → Prop} {Q : Exit → Act → World → Prop} {E : Prop} {w : World}
theorem step_load_g {P : Program} (hw : Region.wanted o (yielded ops a.tmps) = true) (ty : TypeId) (x : Operand) (ho : o.op = .load ty x) (g : Nat) (hx : a.eval x = .pointer (some ⟨g, 0, none⟩)) (t : TypeId) (cs : Array Value) (d : TypeDesc)
    (hg : Row w g cs t) (hu : P.underlying ty = some d) (hd : (match d with | .struct _ | .array _ _ => true | _ => false) = true) (hi : (P.info? ty).map (·.size) = some cs.size)
    (h : K (a.put o.dst (.agg cs)) w) : if Region.wanted o (yielded ops a.tmps) = true then Oper.wp P o a w K Q else E := by
  rw [if_pos hw]
  unfold Oper.wp execOp
  simp only [ho, hx, Instr.loadAt, Instr.sureAddr, Sem.run_bind, Sem.run_pure, Result.andThen_ok, run_loadVar_row w g t ty cs (0, 0) d hg hu hd hi]
  exact h
theorem step_box {P : Program} (hw : Region.wanted o (yielded ops a.tmps) = true) (ty : TypeId) (x : Operand) (ho : o.op = .box ty x) (cs : Array Value) (hx : a.eval x = .agg cs)
    (h : K (a.put o.dst (.pointer (some ⟨w.heap.size, 0, none⟩))) (w.alloc (.cells cs ty))) : if Region.wanted o (yielded ops a.tmps) = true then Oper.wp P o a w K Q else E := by
  rw [if_pos hw]
  unfold Oper.wp execOp
  simp only [ho, hx, Instr.box, newVar, Value.cells]
  exact h
theorem step_call1 (hw : Region.wanted o (yielded ops a.tmps) = true) (f : Nat) (vs : Array Value) (hrun : ∀ w, (execOp a.eval o).run Try.prog w = .ok (.enter f vs) w)
    (h : Calls Try.prog f vs w fun
      | .returned v, w'' => K (a.put o.dst v) w''
      | .panicked chain, w'' => Q (.panic chain) a w''
      | .outgrown, _ => LetsOut Q) : if Region.wanted o (yielded ops a.tmps) = true then Oper.wp Try.prog o a w K Q else E := by
  rw [if_pos hw]
  unfold Oper.wp
  rw [hrun w, Oper.upon_enter]
  exact h
end
theorem run_call32 (ρ : Operand → Value) (o : Oper) (x : Operand) (v : Value) (ho : o.op = .call { callee := .value (.func 66), args := #[x], argTypes := #[46] }) (hf : ρ (.func 66) = .func (.func 66) #[] #[]) (e : ρ x = v) (w : World) : (execOp ρ o).run Try.prog w = .ok (.enter 66 #[v]) w := by
  unfold execOp
  simp only [ho]
  go_simp
theorem built118 (A1 : Option Addr) (m c1 : Nat) (cf ff : Nat → Nat) : Try.prog.built 113 [(0, .slice A1 m c1), (3, .agg (ia cf 16)), (4, .agg (ia ff 17))] = some (hcells (.slice A1 m c1) (.slice none 0 0) (.slice none 0 0) cf ff) := by kernel_rfl
theorem run_build73 (a : Act) (o : Oper) (ho : o.op = .build 113 #[(0, .tmp 43), (3, .tmp 44), (4, .tmp 45)]) (A1 : Option Addr) (m c1 : Nat) (cf ff : Nat → Nat) (e1 : a.eval (.tmp 43) = .slice A1 m c1) (e2 : a.eval (.tmp 44) = .agg (ia cf 16)) (e3 : a.eval (.tmp 45) = .agg (ia ff 17)) (w : World) :
    (execOp a.eval o).run Try.prog w = .ok (.value (.agg (hcells (.slice A1 m c1) (.slice none 0 0) (.slice none 0 0) cf ff))) w := by
  unfold execOp
  simp only [ho]
  have hb : Try.prog.built 113 ((#[(0, Operand.tmp 43), (3, Operand.tmp 44), (4, Operand.tmp 45)].map fun (i, x) => (i, a.eval x)).toList) = some (hcells (.slice A1 m c1) (.slice none 0 0) (.slice none 0 0) cf ff) := by
    simp only [List.map_toArray, List.map_cons, List.map_nil, e1, e2, e3]
    exact built118 A1 m c1 cf ff
  simp only [Sem.run_bind, run_build w 113 _ _ hb, Result.andThen_ok]
  rfl
/-- The region's operations. -/
def ops8 : Array Oper := #[{ dst := some 42, op := Op.move (Operand.tmp 0), type := 46, pos := "huff.go:49", after := #[], guard := none }, { dst := some 43, op := Op.call { callee := Callee.value (Operand.func 66), args := #[Operand.tmp 42], argTypes := #[46] }, type := 46, pos := "huff.go:49", after := #[{ on := 0, ground := Ground.data }], guard := none }, { dst := some 44, op := Op.load 102 (Operand.tmp 6), type := 102, pos := "huff.go:49", after := #[], guard := none }, { dst := some 45, op := Op.load 106 (Operand.tmp 8), type := 106, pos := "huff.go:49", after := #[], guard := none }, { dst := some 46, op := Op.build 113 #[(0, Operand.tmp 43), (3, Operand.tmp 44), (4, Operand.tmp 45)], type := 113, pos := "huff.go:49", after := #[{ on := 1, ground := Ground.data }, { on := 2, ground := Ground.data }, { on := 3, ground := Ground.data }], guard := none }, { dst := some 47, op := Op.box 113 (Operand.tmp 46), type := 78, pos := "huff.go:49", after := #[{ on := 4, ground := Ground.data }], guard := none }, { dst := some 9, op := Op.assign (Operand.tmp 47), type := 78, pos := "huff.go:49", after := #[{ on := 5, ground := Ground.data }, { on := 1, ground := Ground.chain }, { on := 0, ground := Ground.phase }, { on := 1, ground := Ground.phase }, { on := 2, ground := Ground.phase }, { on := 3, ground := Ground.phase }, { on := 4, ground := Ground.phase }, { on := 5, ground := Ground.phase }], guard := none }]

set_option maxHeartbeats 1000000 in
set_option maxRecDepth 10000 in
theorem region11 (a : Act) (w : World) (Q : Exit → Act → World → Prop) (A : Option Addr) (n c p q : Nat) (L : List Int) (cf ff : Nat → Nat) (hs : a.tmps.size = 51) (h0 : a.eval (.tmp 0) = .slice A n c) (h6 : a.eval (.tmp 6) = PG p 0) (h8 : a.eval (.tmp 8) = PG q 0)
    (hr : Rd w w.heap.size A n (is L)) (hA : A = none → c = 0) (hn : n ≤ 1000000) (hrp : Row w p (ia cf 16) 102) (hrq : Row w q (ia ff 17) 106)
    (hQp : ∀ c a (i : Nat) v w, Q (.panic c) (a.put (some i) v) w → Q (.panic c) a w)
    (hq : ∀ a' w' A1 c1, a'.tmps.size = 51 → a'.defers = a.defers → a'.eval (.tmp 9) = PG w'.heap.size 0 → OwnI w' w.heap.size (.slice A1 L.length c1) L → w.grownBy w' none →
      Q .normal a' (w'.alloc (.cells (hcells (.slice A1 L.length c1) (.slice none 0 0) (.slice none 0 0) cf ff) 113))) :
    (Code.region 11 ops8 true).wp Try.prog Q a w := by
  refine wp_region_any (by kernel_rfl) ?_
  change wpAny _ _ _ _ _ _ _ (World.drew _)
  have hrp : Row w.drew p (ia cf 16) 102 := hrp
  have hrq : Row w.drew q (ia ff 17) 106 := hrq
  have hr : Rd w.drew w.drew.heap.size A n (is L) := hr
  have hq : ∀ a' w' A1 c1, a'.tmps.size = 51 → a'.defers = a.defers → a'.eval (.tmp 9) = PG w'.heap.size 0 → OwnI w' w.drew.heap.size (.slice A1 L.length c1) L → w.drew.grownBy w' none →
      Q .normal a' (w'.alloc (.cells (hcells (.slice A1 L.length c1) (.slice none 0 0) (.slice none 0 0) cf ff) 113)) := fun a' w' A1 c1 x1 x2 x3 x4 hy => hq a' w' A1 c1 x1 x2 x3 x4 ⟨hy.os, hy.tape, hy.output, hy.size, hy.block⟩
  generalize w.drew = w at hrp hrq hr hq ⊢
  show wpAny _ _ ops8 Q 7 (Array.replicate 7 false) a w
  refine wpAny_take (i := 0) (fuel := 6) (oi := { dst := some 42, op := Op.move (Operand.tmp 0), type := 46, pos := "huff.go:49", after := #[], guard := none }) (v := .slice A n c) rfl (by kernel_rfl) (by kernel_rfl) (by kernel_rfl) (fun c a w h => hQp c a _ _ w h) (Or.inl ⟨rfl, fun w => ?_⟩) ?_
  · exact congrArg (fun v => Result.ok (Next.value v) w) h0
  change wpAny _ _ ops8 Q 6 _ (a.put (some 42) (.slice A n c)) w
  have hsBc1 : (a.put (some 42) (.slice A n c)).tmps.size = 51 := by rw [put_size, hs]
  have hdBc1 : (a.put (some 42) (.slice A n c)).defers = a.defers := rfl
  have eBc1_42 := ev_same a 42 (.slice A n c) (by rw [hs]; decide)
  have eBc1_0 := (ev_ne a 42 0 (.slice A n c) (by decide)).trans h0
  have eBc1_6 := (ev_ne a 42 6 (.slice A n c) (by decide)).trans h6
  have eBc1_8 := (ev_ne a 42 8 (.slice A n c) (by decide)).trans h8
  generalize a.put (some 42) (.slice A n c) = Bc1 at hsBc1 hdBc1 eBc1_42 eBc1_0 eBc1_6 eBc1_8 ⊢
  refine wpAny_ready (rs := [1, 2, 3]) (fuel := 5) (by kernel_rfl) (by decide) ?_
  refine AllReady.cons (o := { dst := some 43, op := Op.call { callee := Callee.value (Operand.func 66), args := #[Operand.tmp 42], argTypes := #[46] }, type := 46, pos := "huff.go:49", after := #[{ on := 0, ground := Ground.data }], guard := none }) rfl (fun K hK => ?_) ?_
  · skip
    refine step_call1 rfl 66 _ (run_call32 _ _ _ _ rfl rfl eBc1_42) ?_
    refine (cloneI_any A n c L w hr hA hn).mono ?_
    rintro e w1 ⟨v, rfl, hov, hgv⟩
    obtain ⟨A1, c1, rfl⟩ := hov.slice
    have rp1 := hrp.grown hgv (by simp)
    have rq1 := hrq.grown hgv (by simp)
    refine hK _ _ ?_
    clear hK K
    change wpAny _ _ ops8 Q 5 _ (Bc1.put (some 43) (.slice A1 L.length c1)) w1
    have hsBca2 : (Bc1.put (some 43) (.slice A1 L.length c1)).tmps.size = 51 := by rw [put_size, hsBc1]
    have hdBca2 : (Bc1.put (some 43) (.slice A1 L.length c1)).defers = a.defers := hdBc1
    have eBca2_43 := ev_same Bc1 43 (.slice A1 L.length c1) (by rw [hsBc1]; decide)
    have eBca2_42 := (ev_ne Bc1 43 42 (.slice A1 L.length c1) (by decide)).trans eBc1_42
    have eBca2_0 := (ev_ne Bc1 43 0 (.slice A1 L.length c1) (by decide)).trans eBc1_0
    have eBca2_6 := (ev_ne Bc1 43 6 (.slice A1 L.length c1) (by decide)).trans eBc1_6
    have eBca2_8 := (ev_ne Bc1 43 8 (.slice A1 L.length c1) (by decide)).trans eBc1_8
    generalize Bc1.put (some 43) (.slice A1 L.length c1) = Bca2 at hsBca2 hdBca2 eBca2_43 eBca2_42 eBca2_0 eBca2_6 eBca2_8 ⊢
    clear eBc1_42 eBc1_0 eBc1_6 eBc1_8 hsBc1 hdBc1
    refine wpAny_ready (rs := [2, 3]) (fuel := 4) (by kernel_rfl) (by decide) ?_
    refine AllReady.cons (o := { dst := some 44, op := Op.load 102 (Operand.tmp 6), type := 102, pos := "huff.go:49", after := #[], guard := none }) rfl (fun K hK => ?_) ?_
    · skip
      refine step_load_g rfl 102 _ rfl p eBca2_6 _ (ia cf 16) _ rp1 Try.underlying102 rfl (by rw [size114, ia_size]) ?_
      refine hK _ _ ?_
      clear hK K
      change wpAny _ _ ops8 Q 4 _ (Bca2.put (some 44) (.agg (ia cf 16))) w1
      have hsBcaa3 : (Bca2.put (some 44) (.agg (ia cf 16))).tmps.size = 51 := by rw [put_size, hsBca2]
      have hdBcaa3 : (Bca2.put (some 44) (.agg (ia cf 16))).defers = a.defers := hdBca2
      have eBcaa3_44 := ev_same Bca2 44 (.agg (ia cf 16)) (by rw [hsBca2]; decide)
      have eBcaa3_43 := (ev_ne Bca2 44 43 (.agg (ia cf 16)) (by decide)).trans eBca2_43
      have eBcaa3_42 := (ev_ne Bca2 44 42 (.agg (ia cf 16)) (by decide)).trans eBca2_42
      have eBcaa3_0 := (ev_ne Bca2 44 0 (.agg (ia cf 16)) (by decide)).trans eBca2_0
      have eBcaa3_6 := (ev_ne Bca2 44 6 (.agg (ia cf 16)) (by decide)).trans eBca2_6
      have eBcaa3_8 := (ev_ne Bca2 44 8 (.agg (ia cf 16)) (by decide)).trans eBca2_8
      generalize Bca2.put (some 44) (.agg (ia cf 16)) = Bcaa3 at hsBcaa3 hdBcaa3 eBcaa3_44 eBcaa3_43 eBcaa3_42 eBcaa3_0 eBcaa3_6 eBcaa3_8 ⊢
      clear eBca2_43 eBca2_42 eBca2_0 eBca2_6 eBca2_8 hsBca2 hdBca2
      refine wpAny_ready (rs := [3]) (fuel := 3) (by kernel_rfl) (by decide) ?_
      refine AllReady.cons (o := { dst := some 45, op := Op.load 106 (Operand.tmp 8), type := 106, pos := "huff.go:49", after := #[], guard := none }) rfl (fun K hK => ?_) AllReady.nil
      refine step_load_g rfl 106 _ rfl q eBcaa3_8 _ (ia ff 17) _ rq1 Try.underlying106 rfl (by rw [size116, ia_size]) ?_
      refine hK _ _ ?_
      clear hK K
      change wpAny _ _ ops8 Q 3 _ (Bcaa3.put (some 45) (.agg (ia ff 17))) w1
      have hsBcaaa4 : (Bcaa3.put (some 45) (.agg (ia ff 17))).tmps.size = 51 := by rw [put_size, hsBcaa3]
      have hdBcaaa4 : (Bcaa3.put (some 45) (.agg (ia ff 17))).defers = a.defers := hdBcaa3
      have eBcaaa4_45 := ev_same Bcaa3 45 (.agg (ia ff 17)) (by rw [hsBcaa3]; decide)
      have eBcaaa4_44 := (ev_ne Bcaa3 45 44 (.agg (ia ff 17)) (by decide)).trans eBcaa3_44
      have eBcaaa4_43 := (ev_ne Bcaa3 45 43 (.agg (ia ff 17)) (by decide)).trans eBcaa3_43
      have eBcaaa4_42 := (ev_ne Bcaa3 45 42 (.agg (ia ff 17)) (by decide)).trans eBcaa3_42
      have eBcaaa4_0 := (ev_ne Bcaa3 45 0 (.agg (ia ff 17)) (by decide)).trans eBcaa3_0
      have eBcaaa4_6 := (ev_ne Bcaa3 45 6 (.agg (ia ff 17)) (by decide)).trans eBcaa3_6
      have eBcaaa4_8 := (ev_ne Bcaa3 45 8 (.agg (ia ff 17)) (by decide)).trans eBcaa3_8
      generalize Bcaa3.put (some 45) (.agg (ia ff 17)) = Bcaaa4 at hsBcaaa4 hdBcaaa4 eBcaaa4_45 eBcaaa4_44 eBcaaa4_43 eBcaaa4_42 eBcaaa4_0 eBcaaa4_6 eBcaaa4_8 ⊢
      clear eBcaa3_44 eBcaa3_43 eBcaa3_42 eBcaa3_0 eBcaa3_6 eBcaa3_8 hsBcaa3 hdBcaa3
      refine wpAny_take (i := 4) (fuel := 2) (oi := { dst := some 46, op := Op.build 113 #[(0, Operand.tmp 43), (3, Operand.tmp 44), (4, Operand.tmp 45)], type := 113, pos := "huff.go:49", after := #[{ on := 1, ground := Ground.data }, { on := 2, ground := Ground.data }, { on := 3, ground := Ground.data }], guard := none }) (v := .agg (hcells (.slice A1 L.length c1) (.slice none 0 0) (.slice none 0 0) cf ff)) rfl (by kernel_rfl) (by kernel_rfl) (by kernel_rfl) (fun c a w h => hQp c a _ _ w h) (Or.inl ⟨rfl, fun w => ?_⟩) ?_
      · have e1 := eBcaaa4_43
        have e2 := eBcaaa4_44
        have e3 := eBcaaa4_45
        exact run_build73 _ _ rfl _ _ _ _ _ e1 e2 e3 w
      change wpAny _ _ ops8 Q 2 _ (Bcaaa4.put (some 46) (.agg (hcells (.slice A1 L.length c1) (.slice none 0 0) (.slice none 0 0) cf ff))) w1
      have hsBcaaa5 : (Bcaaa4.put (some 46) (.agg (hcells (.slice A1 L.length c1) (.slice none 0 0) (.slice none 0 0) cf ff))).tmps.size = 51 := by rw [put_size, hsBcaaa4]
      have hdBcaaa5 : (Bcaaa4.put (some 46) (.agg (hcells (.slice A1 L.length c1) (.slice none 0 0) (.slice none 0 0) cf ff))).defers = a.defers := hdBcaaa4
      have eBcaaa5_46 := ev_same Bcaaa4 46 (.agg (hcells (.slice A1 L.length c1) (.slice none 0 0) (.slice none 0 0) cf ff)) (by rw [hsBcaaa4]; decide)
      have eBcaaa5_45 := (ev_ne Bcaaa4 46 45 (.agg (hcells (.slice A1 L.length c1) (.slice none 0 0) (.slice none 0 0) cf ff)) (by decide)).trans eBcaaa4_45
      have eBcaaa5_44 := (ev_ne Bcaaa4 46 44 (.agg (hcells (.slice A1 L.length c1) (.slice none 0 0) (.slice none 0 0) cf ff)) (by decide)).trans eBcaaa4_44
      have eBcaaa5_43 := (ev_ne Bcaaa4 46 43 (.agg (hcells (.slice A1 L.length c1) (.slice none 0 0) (.slice none 0 0) cf ff)) (by decide)).trans eBcaaa4_43
      have eBcaaa5_42 := (ev_ne Bcaaa4 46 42 (.agg (hcells (.slice A1 L.length c1) (.slice none 0 0) (.slice none 0 0) cf ff)) (by decide)).trans eBcaaa4_42
      have eBcaaa5_0 := (ev_ne Bcaaa4 46 0 (.agg (hcells (.slice A1 L.length c1) (.slice none 0 0) (.slice none 0 0) cf ff)) (by decide)).trans eBcaaa4_0
      have eBcaaa5_6 := (ev_ne Bcaaa4 46 6 (.agg (hcells (.slice A1 L.length c1) (.slice none 0 0) (.slice none 0 0) cf ff)) (by decide)).trans eBcaaa4_6
      have eBcaaa5_8 := (ev_ne Bcaaa4 46 8 (.agg (hcells (.slice A1 L.length c1) (.slice none 0 0) (.slice none 0 0) cf ff)) (by decide)).trans eBcaaa4_8
      generalize Bcaaa4.put (some 46) (.agg (hcells (.slice A1 L.length c1) (.slice none 0 0) (.slice none 0 0) cf ff)) = Bcaaa5 at hsBcaaa5 hdBcaaa5 eBcaaa5_46 eBcaaa5_45 eBcaaa5_44 eBcaaa5_43 eBcaaa5_42 eBcaaa5_0 eBcaaa5_6 eBcaaa5_8 ⊢
      clear eBcaaa4_45 eBcaaa4_44 eBcaaa4_43 eBcaaa4_42 eBcaaa4_0 eBcaaa4_6 eBcaaa4_8 hsBcaaa4 hdBcaaa4
      refine wpAny_ready (rs := [5]) (fuel := 1) (by kernel_rfl) (by decide) ?_
      refine AllReady.cons (o := { dst := some 47, op := Op.box 113 (Operand.tmp 46), type := 78, pos := "huff.go:49", after := #[{ on := 4, ground := Ground.data }], guard := none }) rfl (fun K hK => ?_) AllReady.nil
      refine step_box rfl 113 _ rfl (hcells (.slice A1 L.length c1) (.slice none 0 0) (.slice none 0 0) cf ff) eBcaaa5_46 ?_
      refine hK _ _ ?_
      clear hK K
      change wpAny _ _ ops8 Q 1 _ (Bcaaa5.put (some 47) (PG w1.heap.size 0)) (w1.alloc (.cells (hcells (.slice A1 L.length c1) (.slice none 0 0) (.slice none 0 0) cf ff) 113))
      have hsBcaaa6 : (Bcaaa5.put (some 47) (PG w1.heap.size 0)).tmps.size = 51 := by rw [put_size, hsBcaaa5]
      have hdBcaaa6 : (Bcaaa5.put (some 47) (PG w1.heap.size 0)).defers = a.defers := hdBcaaa5
      have eBcaaa6_47 := ev_same Bcaaa5 47 (PG w1.heap.size 0) (by rw [hsBcaaa5]; decide)
      have eBcaaa6_46 := (ev_ne Bcaaa5 47 46 (PG w1.heap.size 0) (by decide)).trans eBcaaa5_46
      have eBcaaa6_45 := (ev_ne Bcaaa5 47 45 (PG w1.heap.size 0) (by decide)).trans eBcaaa5_45
      have eBcaaa6_44 := (ev_ne Bcaaa5 47 44 (PG w1.heap.size 0) (by decide)).trans eBcaaa5_44
      have eBcaaa6_43 := (ev_ne Bcaaa5 47 43 (PG w1.heap.size 0) (by decide)).trans eBcaaa5_43
      have eBcaaa6_42 := (ev_ne Bcaaa5 47 42 (PG w1.heap.size 0) (by decide)).trans eBcaaa5_42
      have eBcaaa6_0 := (ev_ne Bcaaa5 47 0 (PG w1.heap.size 0) (by decide)).trans eBcaaa5_0
      have eBcaaa6_6 := (ev_ne Bcaaa5 47 6 (PG w1.heap.size 0) (by decide)).trans eBcaaa5_6
      have eBcaaa6_8 := (ev_ne Bcaaa5 47 8 (PG w1.heap.size 0) (by decide)).trans eBcaaa5_8
      generalize Bcaaa5.put (some 47) (PG w1.heap.size 0) = Bcaaa6 at hsBcaaa6 hdBcaaa6 eBcaaa6_47 eBcaaa6_46 eBcaaa6_45 eBcaaa6_44 eBcaaa6_43 eBcaaa6_42 eBcaaa6_0 eBcaaa6_6 eBcaaa6_8 ⊢
      clear eBcaaa5_46 eBcaaa5_45 eBcaaa5_44 eBcaaa5_43 eBcaaa5_42 eBcaaa5_0 eBcaaa5_6 eBcaaa5_8 hsBcaaa5 hdBcaaa5
      refine wpAny_take (i := 6) (fuel := 0) (oi := { dst := some 9, op := Op.assign (Operand.tmp 47), type := 78, pos := "huff.go:49", after := #[{ on := 5, ground := Ground.data }, { on := 1, ground := Ground.chain }, { on := 0, ground := Ground.phase }, { on := 1, ground := Ground.phase }, { on := 2, ground := Ground.phase }, { on := 3, ground := Ground.phase }, { on := 4, ground := Ground.phase }, { on := 5, ground := Ground.phase }], guard := none }) (v := PG w1.heap.size 0) rfl (by kernel_rfl) (by kernel_rfl) (by kernel_rfl) (fun c a w h => hQp c a _ _ w h) (Or.inl ⟨rfl, fun w => ?_⟩) ?_
      · exact congrArg (fun v => Result.ok (Next.value v) w) eBcaaa6_47
      change wpAny _ _ ops8 Q 0 _ (Bcaaa6.put (some 9) (PG w1.heap.size 0)) (w1.alloc (.cells (hcells (.slice A1 L.length c1) (.slice none 0 0) (.slice none 0 0) cf ff) 113))
      have hsBcaaa7 : (Bcaaa6.put (some 9) (PG w1.heap.size 0)).tmps.size = 51 := by rw [put_size, hsBcaaa6]
      have hdBcaaa7 : (Bcaaa6.put (some 9) (PG w1.heap.size 0)).defers = a.defers := hdBcaaa6
      have eBcaaa7_9 := ev_same Bcaaa6 9 (PG w1.heap.size 0) (by rw [hsBcaaa6]; decide)
      have eBcaaa7_47 := (ev_ne Bcaaa6 9 47 (PG w1.heap.size 0) (by decide)).trans eBcaaa6_47
      have eBcaaa7_46 := (ev_ne Bcaaa6 9 46 (PG w1.heap.size 0) (by decide)).trans eBcaaa6_46
      have eBcaaa7_45 := (ev_ne Bcaaa6 9 45 (PG w1.heap.size 0) (by decide)).trans eBcaaa6_45
      have eBcaaa7_44 := (ev_ne Bcaaa6 9 44 (PG w1.heap.size 0) (by decide)).trans eBcaaa6_44
      have eBcaaa7_43 := (ev_ne Bcaaa6 9 43 (PG w1.heap.size 0) (by decide)).trans eBcaaa6_43
      have eBcaaa7_42 := (ev_ne Bcaaa6 9 42 (PG w1.heap.size 0) (by decide)).trans eBcaaa6_42
      have eBcaaa7_0 := (ev_ne Bcaaa6 9 0 (PG w1.heap.size 0) (by decide)).trans eBcaaa6_0
      have eBcaaa7_6 := (ev_ne Bcaaa6 9 6 (PG w1.heap.size 0) (by decide)).trans eBcaaa6_6
      have eBcaaa7_8 := (ev_ne Bcaaa6 9 8 (PG w1.heap.size 0) (by decide)).trans eBcaaa6_8
      generalize Bcaaa6.put (some 9) (PG w1.heap.size 0) = Bcaaa7 at hsBcaaa7 hdBcaaa7 eBcaaa7_9 eBcaaa7_47 eBcaaa7_46 eBcaaa7_45 eBcaaa7_44 eBcaaa7_43 eBcaaa7_42 eBcaaa7_0 eBcaaa7_6 eBcaaa7_8 ⊢
      clear eBcaaa6_47 eBcaaa6_46 eBcaaa6_45 eBcaaa6_44 eBcaaa6_43 eBcaaa6_42 eBcaaa6_0 eBcaaa6_6 eBcaaa6_8 hsBcaaa6 hdBcaaa6
      refine wpAny_done (by kernel_rfl) ?_ _
      exact hq _ w1 A1 c1 hsBcaaa7 hdBcaaa7 eBcaaa7_9 hov hgv
    refine AllReady.cons (o := { dst := some 45, op := Op.load 106 (Operand.tmp 8), type := 106, pos := "huff.go:49", after := #[], guard := none }) rfl (fun K hK => ?_) AllReady.nil
    refine step_load_g rfl 106 _ rfl q eBca2_8 _ (ia ff 17) _ rq1 Try.underlying106 rfl (by rw [size116, ia_size]) ?_
    refine hK _ _ ?_
    clear hK K
    change wpAny _ _ ops8 Q 4 _ (Bca2.put (some 45) (.agg (ia ff 17))) w1
    have hsBcab3 : (Bca2.put (some 45) (.agg (ia ff 17))).tmps.size = 51 := by rw [put_size, hsBca2]
    have hdBcab3 : (Bca2.put (some 45) (.agg (ia ff 17))).defers = a.defers := hdBca2
    have eBcab3_45 := ev_same Bca2 45 (.agg (ia ff 17)) (by rw [hsBca2]; decide)
    have eBcab3_43 := (ev_ne Bca2 45 43 (.agg (ia ff 17)) (by decide)).trans eBca2_43
    have eBcab3_42 := (ev_ne Bca2 45 42 (.agg (ia ff 17)) (by decide)).trans eBca2_42
    have eBcab3_0 := (ev_ne Bca2 45 0 (.agg (ia ff 17)) (by decide)).trans eBca2_0
    have eBcab3_6 := (ev_ne Bca2 45 6 (.agg (ia ff 17)) (by decide)).trans eBca2_6
    have eBcab3_8 := (ev_ne Bca2 45 8 (.agg (ia ff 17)) (by decide)).trans eBca2_8
    generalize Bca2.put (some 45) (.agg (ia ff 17)) = Bcab3 at hsBcab3 hdBcab3 eBcab3_45 eBcab3_43 eBcab3_42 eBcab3_0 eBcab3_6 eBcab3_8 ⊢
    clear eBca2_43 eBca2_42 eBca2_0 eBca2_6 eBca2_8 hsBca2 hdBca2
    refine wpAny_ready (rs := [2]) (fuel := 3) (by kernel_rfl) (by decide) ?_
    refine AllReady.cons (o := { dst := some 44, op := Op.load 102 (Operand.tmp 6), type := 102, pos := "huff.go:49", after := #[], guard := none }) rfl (fun K hK => ?_) AllReady.nil
    refine step_load_g rfl 102 _ rfl p eBcab3_6 _ (ia cf 16) _ rp1 Try.underlying102 rfl (by rw [size114, ia_size]) ?_
    refine hK _ _ ?_
    clear hK K
    change wpAny _ _ ops8 Q 3 _ (Bcab3.put (some 44) (.agg (ia cf 16))) w1
    have hsBcaba4 : (Bcab3.put (some 44) (.agg (ia cf 16))).tmps.size = 51 := by rw [put_size, hsBcab3]
    have hdBcaba4 : (Bcab3.put (some 44) (.agg (ia cf 16))).defers = a.defers := hdBcab3
    have eBcaba4_44 := ev_same Bcab3 44 (.agg (ia cf 16)) (by rw [hsBcab3]; decide)
    have eBcaba4_45 := (ev_ne Bcab3 44 45 (.agg (ia cf 16)) (by decide)).trans eBcab3_45
    have eBcaba4_43 := (ev_ne Bcab3 44 43 (.agg (ia cf 16)) (by decide)).trans eBcab3_43
    have eBcaba4_42 := (ev_ne Bcab3 44 42 (.agg (ia cf 16)) (by decide)).trans eBcab3_42
    have eBcaba4_0 := (ev_ne Bcab3 44 0 (.agg (ia cf 16)) (by decide)).trans eBcab3_0
    have eBcaba4_6 := (ev_ne Bcab3 44 6 (.agg (ia cf 16)) (by decide)).trans eBcab3_6
    have eBcaba4_8 := (ev_ne Bcab3 44 8 (.agg (ia cf 16)) (by decide)).trans eBcab3_8
    generalize Bcab3.put (some 44) (.agg (ia cf 16)) = Bcaba4 at hsBcaba4 hdBcaba4 eBcaba4_44 eBcaba4_45 eBcaba4_43 eBcaba4_42 eBcaba4_0 eBcaba4_6 eBcaba4_8 ⊢
    clear eBcab3_45 eBcab3_43 eBcab3_42 eBcab3_0 eBcab3_6 eBcab3_8 hsBcab3 hdBcab3
    refine wpAny_take (i := 4) (fuel := 2) (oi := { dst := some 46, op := Op.build 113 #[(0, Operand.tmp 43), (3, Operand.tmp 44), (4, Operand.tmp 45)], type := 113, pos := "huff.go:49", after := #[{ on := 1, ground := Ground.data }, { on := 2, ground := Ground.data }, { on := 3, ground := Ground.data }], guard := none }) (v := .agg (hcells (.slice A1 L.length c1) (.slice none 0 0) (.slice none 0 0) cf ff)) rfl (by kernel_rfl) (by kernel_rfl) (by kernel_rfl) (fun c a w h => hQp c a _ _ w h) (Or.inl ⟨rfl, fun w => ?_⟩) ?_
    · have e1 := eBcaba4_43
      have e2 := eBcaba4_44
      have e3 := eBcaba4_45
      exact run_build73 _ _ rfl _ _ _ _ _ e1 e2 e3 w
    change wpAny _ _ ops8 Q 2 _ (Bcaba4.put (some 46) (.agg (hcells (.slice A1 L.length c1) (.slice none 0 0) (.slice none 0 0) cf ff))) w1
    have hsBcaba5 : (Bcaba4.put (some 46) (.agg (hcells (.slice A1 L.length c1) (.slice none 0 0) (.slice none 0 0) cf ff))).tmps.size = 51 := by rw [put_size, hsBcaba4]
    have hdBcaba5 : (Bcaba4.put (some 46) (.agg (hcells (.slice A1 L.length c1) (.slice none 0 0) (.slice none 0 0) cf ff))).defers = a.defers := hdBcaba4
    have eBcaba5_46 := ev_same Bcaba4 46 (.agg (hcells (.slice A1 L.length c1) (.slice none 0 0) (.slice none 0 0) cf ff)) (by rw [hsBcaba4]; decide)
    have eBcaba5_44 := (ev_ne Bcaba4 46 44 (.agg (hcells (.slice A1 L.length c1) (.slice none 0 0) (.slice none 0 0) cf ff)) (by decide)).trans eBcaba4_44
    have eBcaba5_45 := (ev_ne Bcaba4 46 45 (.agg (hcells (.slice A1 L.length c1) (.slice none 0 0) (.slice none 0 0) cf ff)) (by decide)).trans eBcaba4_45
    have eBcaba5_43 := (ev_ne Bcaba4 46 43 (.agg (hcells (.slice A1 L.length c1) (.slice none 0 0) (.slice none 0 0) cf ff)) (by decide)).trans eBcaba4_43
    have eBcaba5_42 := (ev_ne Bcaba4 46 42 (.agg (hcells (.slice A1 L.length c1) (.slice none 0 0) (.slice none 0 0) cf ff)) (by decide)).trans eBcaba4_42
    have eBcaba5_0 := (ev_ne Bcaba4 46 0 (.agg (hcells (.slice A1 L.length c1) (.slice none 0 0) (.slice none 0 0) cf ff)) (by decide)).trans eBcaba4_0
    have eBcaba5_6 := (ev_ne Bcaba4 46 6 (.agg (hcells (.slice A1 L.length c1) (.slice none 0 0) (.slice none 0 0) cf ff)) (by decide)).trans eBcaba4_6
    have eBcaba5_8 := (ev_ne Bcaba4 46 8 (.agg (hcells (.slice A1 L.length c1) (.slice none 0 0) (.slice none 0 0) cf ff)) (by decide)).trans eBcaba4_8
    generalize Bcaba4.put (some 46) (.agg (hcells (.slice A1 L.length c1) (.slice none 0 0) (.slice none 0 0) cf ff)) = Bcaba5 at hsBcaba5 hdBcaba5 eBcaba5_46 eBcaba5_44 eBcaba5_45 eBcaba5_43 eBcaba5_42 eBcaba5_0 eBcaba5_6 eBcaba5_8 ⊢
    clear eBcaba4_44 eBcaba4_45 eBcaba4_43 eBcaba4_42 eBcaba4_0 eBcaba4_6 eBcaba4_8 hsBcaba4 hdBcaba4
    refine wpAny_ready (rs := [5]) (fuel := 1) (by kernel_rfl) (by decide) ?_
    refine AllReady.cons (o := { dst := some 47, op := Op.box 113 (Operand.tmp 46), type := 78, pos := "huff.go:49", after := #[{ on := 4, ground := Ground.data }], guard := none }) rfl (fun K hK => ?_) AllReady.nil
    refine step_box rfl 113 _ rfl (hcells (.slice A1 L.length c1) (.slice none 0 0) (.slice none 0 0) cf ff) eBcaba5_46 ?_
    refine hK _ _ ?_
    clear hK K
    change wpAny _ _ ops8 Q 1 _ (Bcaba5.put (some 47) (PG w1.heap.size 0)) (w1.alloc (.cells (hcells (.slice A1 L.length c1) (.slice none 0 0) (.slice none 0 0) cf ff) 113))
    have hsBcaba6 : (Bcaba5.put (some 47) (PG w1.heap.size 0)).tmps.size = 51 := by rw [put_size, hsBcaba5]
    have hdBcaba6 : (Bcaba5.put (some 47) (PG w1.heap.size 0)).defers = a.defers := hdBcaba5
    have eBcaba6_47 := ev_same Bcaba5 47 (PG w1.heap.size 0) (by rw [hsBcaba5]; decide)
    have eBcaba6_46 := (ev_ne Bcaba5 47 46 (PG w1.heap.size 0) (by decide)).trans eBcaba5_46
    have eBcaba6_44 := (ev_ne Bcaba5 47 44 (PG w1.heap.size 0) (by decide)).trans eBcaba5_44
    have eBcaba6_45 := (ev_ne Bcaba5 47 45 (PG w1.heap.size 0) (by decide)).trans eBcaba5_45
    have eBcaba6_43 := (ev_ne Bcaba5 47 43 (PG w1.heap.size 0) (by decide)).trans eBcaba5_43
    have eBcaba6_42 := (ev_ne Bcaba5 47 42 (PG w1.heap.size 0) (by decide)).trans eBcaba5_42
    have eBcaba6_0 := (ev_ne Bcaba5 47 0 (PG w1.heap.size 0) (by decide)).trans eBcaba5_0
    have eBcaba6_6 := (ev_ne Bcaba5 47 6 (PG w1.heap.size 0) (by decide)).trans eBcaba5_6
    have eBcaba6_8 := (ev_ne Bcaba5 47 8 (PG w1.heap.size 0) (by decide)).trans eBcaba5_8
    generalize Bcaba5.put (some 47) (PG w1.heap.size 0) = Bcaba6 at hsBcaba6 hdBcaba6 eBcaba6_47 eBcaba6_46 eBcaba6_44 eBcaba6_45 eBcaba6_43 eBcaba6_42 eBcaba6_0 eBcaba6_6 eBcaba6_8 ⊢
    clear eBcaba5_46 eBcaba5_44 eBcaba5_45 eBcaba5_43 eBcaba5_42 eBcaba5_0 eBcaba5_6 eBcaba5_8 hsBcaba5 hdBcaba5
    refine wpAny_take (i := 6) (fuel := 0) (oi := { dst := some 9, op := Op.assign (Operand.tmp 47), type := 78, pos := "huff.go:49", after := #[{ on := 5, ground := Ground.data }, { on := 1, ground := Ground.chain }, { on := 0, ground := Ground.phase }, { on := 1, ground := Ground.phase }, { on := 2, ground := Ground.phase }, { on := 3, ground := Ground.phase }, { on := 4, ground := Ground.phase }, { on := 5, ground := Ground.phase }], guard := none }) (v := PG w1.heap.size 0) rfl (by kernel_rfl) (by kernel_rfl) (by kernel_rfl) (fun c a w h => hQp c a _ _ w h) (Or.inl ⟨rfl, fun w => ?_⟩) ?_
    · exact congrArg (fun v => Result.ok (Next.value v) w) eBcaba6_47
    change wpAny _ _ ops8 Q 0 _ (Bcaba6.put (some 9) (PG w1.heap.size 0)) (w1.alloc (.cells (hcells (.slice A1 L.length c1) (.slice none 0 0) (.slice none 0 0) cf ff) 113))
    have hsBcaba7 : (Bcaba6.put (some 9) (PG w1.heap.size 0)).tmps.size = 51 := by rw [put_size, hsBcaba6]
    have hdBcaba7 : (Bcaba6.put (some 9) (PG w1.heap.size 0)).defers = a.defers := hdBcaba6
    have eBcaba7_9 := ev_same Bcaba6 9 (PG w1.heap.size 0) (by rw [hsBcaba6]; decide)
    have eBcaba7_47 := (ev_ne Bcaba6 9 47 (PG w1.heap.size 0) (by decide)).trans eBcaba6_47
    have eBcaba7_46 := (ev_ne Bcaba6 9 46 (PG w1.heap.size 0) (by decide)).trans eBcaba6_46
    have eBcaba7_44 := (ev_ne Bcaba6 9 44 (PG w1.heap.size 0) (by decide)).trans eBcaba6_44
    have eBcaba7_45 := (ev_ne Bcaba6 9 45 (PG w1.heap.size 0) (by decide)).trans eBcaba6_45
    have eBcaba7_43 := (ev_ne Bcaba6 9 43 (PG w1.heap.size 0) (by decide)).trans eBcaba6_43
    have eBcaba7_42 := (ev_ne Bcaba6 9 42 (PG w1.heap.size 0) (by decide)).trans eBcaba6_42
    have eBcaba7_0 := (ev_ne Bcaba6 9 0 (PG w1.heap.size 0) (by decide)).trans eBcaba6_0
    have eBcaba7_6 := (ev_ne Bcaba6 9 6 (PG w1.heap.size 0) (by decide)).trans eBcaba6_6
    have eBcaba7_8 := (ev_ne Bcaba6 9 8 (PG w1.heap.size 0) (by decide)).trans eBcaba6_8
    generalize Bcaba6.put (some 9) (PG w1.heap.size 0) = Bcaba7 at hsBcaba7 hdBcaba7 eBcaba7_9 eBcaba7_47 eBcaba7_46 eBcaba7_44 eBcaba7_45 eBcaba7_43 eBcaba7_42 eBcaba7_0 eBcaba7_6 eBcaba7_8 ⊢
    clear eBcaba6_47 eBcaba6_46 eBcaba6_44 eBcaba6_45 eBcaba6_43 eBcaba6_42 eBcaba6_0 eBcaba6_6 eBcaba6_8 hsBcaba6 hdBcaba6
    refine wpAny_done (by kernel_rfl) ?_ _
    exact hq _ w1 A1 c1 hsBcaba7 hdBcaba7 eBcaba7_9 hov hgv
  refine AllReady.cons (o := { dst := some 44, op := Op.load 102 (Operand.tmp 6), type := 102, pos := "huff.go:49", after := #[], guard := none }) rfl (fun K hK => ?_) ?_
  · skip
    refine step_load_g rfl 102 _ rfl p eBc1_6 _ (ia cf 16) _ hrp Try.underlying102 rfl (by rw [size114, ia_size]) ?_
    refine hK _ _ ?_
    clear hK K
    change wpAny _ _ ops8 Q 5 _ (Bc1.put (some 44) (.agg (ia cf 16))) w
    have hsBcb2 : (Bc1.put (some 44) (.agg (ia cf 16))).tmps.size = 51 := by rw [put_size, hsBc1]
    have hdBcb2 : (Bc1.put (some 44) (.agg (ia cf 16))).defers = a.defers := hdBc1
    have eBcb2_44 := ev_same Bc1 44 (.agg (ia cf 16)) (by rw [hsBc1]; decide)
    have eBcb2_42 := (ev_ne Bc1 44 42 (.agg (ia cf 16)) (by decide)).trans eBc1_42
    have eBcb2_0 := (ev_ne Bc1 44 0 (.agg (ia cf 16)) (by decide)).trans eBc1_0
    have eBcb2_6 := (ev_ne Bc1 44 6 (.agg (ia cf 16)) (by decide)).trans eBc1_6
    have eBcb2_8 := (ev_ne Bc1 44 8 (.agg (ia cf 16)) (by decide)).trans eBc1_8
    generalize Bc1.put (some 44) (.agg (ia cf 16)) = Bcb2 at hsBcb2 hdBcb2 eBcb2_44 eBcb2_42 eBcb2_0 eBcb2_6 eBcb2_8 ⊢
    clear eBc1_42 eBc1_0 eBc1_6 eBc1_8 hsBc1 hdBc1
    refine wpAny_ready (rs := [1, 3]) (fuel := 4) (by kernel_rfl) (by decide) ?_
    refine AllReady.cons (o := { dst := some 43, op := Op.call { callee := Callee.value (Operand.func 66), args := #[Operand.tmp 42], argTypes := #[46] }, type := 46, pos := "huff.go:49", after := #[{ on := 0, ground := Ground.data }], guard := none }) rfl (fun K hK => ?_) ?_
    · skip
      refine step_call1 rfl 66 _ (run_call32 _ _ _ _ rfl rfl eBcb2_42) ?_
      refine (cloneI_any A n c L w hr hA hn).mono ?_
      rintro e w1 ⟨v, rfl, hov, hgv⟩
      obtain ⟨A1, c1, rfl⟩ := hov.slice
      have rp1 := hrp.grown hgv (by simp)
      have rq1 := hrq.grown hgv (by simp)
      refine hK _ _ ?_
      clear hK K
      change wpAny _ _ ops8 Q 4 _ (Bcb2.put (some 43) (.slice A1 L.length c1)) w1
      have hsBcba3 : (Bcb2.put (some 43) (.slice A1 L.length c1)).tmps.size = 51 := by rw [put_size, hsBcb2]
      have hdBcba3 : (Bcb2.put (some 43) (.slice A1 L.length c1)).defers = a.defers := hdBcb2
      have eBcba3_43 := ev_same Bcb2 43 (.slice A1 L.length c1) (by rw [hsBcb2]; decide)
      have eBcba3_44 := (ev_ne Bcb2 43 44 (.slice A1 L.length c1) (by decide)).trans eBcb2_44
      have eBcba3_42 := (ev_ne Bcb2 43 42 (.slice A1 L.length c1) (by decide)).trans eBcb2_42
      have eBcba3_0 := (ev_ne Bcb2 43 0 (.slice A1 L.length c1) (by decide)).trans eBcb2_0
      have eBcba3_6 := (ev_ne Bcb2 43 6 (.slice A1 L.length c1) (by decide)).trans eBcb2_6
      have eBcba3_8 := (ev_ne Bcb2 43 8 (.slice A1 L.length c1) (by decide)).trans eBcb2_8
      generalize Bcb2.put (some 43) (.slice A1 L.length c1) = Bcba3 at hsBcba3 hdBcba3 eBcba3_43 eBcba3_44 eBcba3_42 eBcba3_0 eBcba3_6 eBcba3_8 ⊢
      clear eBcb2_44 eBcb2_42 eBcb2_0 eBcb2_6 eBcb2_8 hsBcb2 hdBcb2
      refine wpAny_ready (rs := [3]) (fuel := 3) (by kernel_rfl) (by decide) ?_
      refine AllReady.cons (o := { dst := some 45, op := Op.load 106 (Operand.tmp 8), type := 106, pos := "huff.go:49", after := #[], guard := none }) rfl (fun K hK => ?_) AllReady.nil
      refine step_load_g rfl 106 _ rfl q eBcba3_8 _ (ia ff 17) _ rq1 Try.underlying106 rfl (by rw [size116, ia_size]) ?_
      refine hK _ _ ?_
      clear hK K
      change wpAny _ _ ops8 Q 3 _ (Bcba3.put (some 45) (.agg (ia ff 17))) w1
      have hsBcbaa4 : (Bcba3.put (some 45) (.agg (ia ff 17))).tmps.size = 51 := by rw [put_size, hsBcba3]
      have hdBcbaa4 : (Bcba3.put (some 45) (.agg (ia ff 17))).defers = a.defers := hdBcba3
      have eBcbaa4_45 := ev_same Bcba3 45 (.agg (ia ff 17)) (by rw [hsBcba3]; decide)
      have eBcbaa4_43 := (ev_ne Bcba3 45 43 (.agg (ia ff 17)) (by decide)).trans eBcba3_43
      have eBcbaa4_44 := (ev_ne Bcba3 45 44 (.agg (ia ff 17)) (by decide)).trans eBcba3_44
      have eBcbaa4_42 := (ev_ne Bcba3 45 42 (.agg (ia ff 17)) (by decide)).trans eBcba3_42
      have eBcbaa4_0 := (ev_ne Bcba3 45 0 (.agg (ia ff 17)) (by decide)).trans eBcba3_0
      have eBcbaa4_6 := (ev_ne Bcba3 45 6 (.agg (ia ff 17)) (by decide)).trans eBcba3_6
      have eBcbaa4_8 := (ev_ne Bcba3 45 8 (.agg (ia ff 17)) (by decide)).trans eBcba3_8
      generalize Bcba3.put (some 45) (.agg (ia ff 17)) = Bcbaa4 at hsBcbaa4 hdBcbaa4 eBcbaa4_45 eBcbaa4_43 eBcbaa4_44 eBcbaa4_42 eBcbaa4_0 eBcbaa4_6 eBcbaa4_8 ⊢
      clear eBcba3_43 eBcba3_44 eBcba3_42 eBcba3_0 eBcba3_6 eBcba3_8 hsBcba3 hdBcba3
      refine wpAny_take (i := 4) (fuel := 2) (oi := { dst := some 46, op := Op.build 113 #[(0, Operand.tmp 43), (3, Operand.tmp 44), (4, Operand.tmp 45)], type := 113, pos := "huff.go:49", after := #[{ on := 1, ground := Ground.data }, { on := 2, ground := Ground.data }, { on := 3, ground := Ground.data }], guard := none }) (v := .agg (hcells (.slice A1 L.length c1) (.slice none 0 0) (.slice none 0 0) cf ff)) rfl (by kernel_rfl) (by kernel_rfl) (by kernel_rfl) (fun c a w h => hQp c a _ _ w h) (Or.inl ⟨rfl, fun w => ?_⟩) ?_
      · have e1 := eBcbaa4_43
        have e2 := eBcbaa4_44
        have e3 := eBcbaa4_45
        exact run_build73 _ _ rfl _ _ _ _ _ e1 e2 e3 w
      change wpAny _ _ ops8 Q 2 _ (Bcbaa4.put (some 46) (.agg (hcells (.slice A1 L.length c1) (.slice none 0 0) (.slice none 0 0) cf ff))) w1
      have hsBcbaa5 : (Bcbaa4.put (some 46) (.agg (hcells (.slice A1 L.length c1) (.slice none 0 0) (.slice none 0 0) cf ff))).tmps.size = 51 := by rw [put_size, hsBcbaa4]
      have hdBcbaa5 : (Bcbaa4.put (some 46) (.agg (hcells (.slice A1 L.length c1) (.slice none 0 0) (.slice none 0 0) cf ff))).defers = a.defers := hdBcbaa4
      have eBcbaa5_46 := ev_same Bcbaa4 46 (.agg (hcells (.slice A1 L.length c1) (.slice none 0 0) (.slice none 0 0) cf ff)) (by rw [hsBcbaa4]; decide)
      have eBcbaa5_45 := (ev_ne Bcbaa4 46 45 (.agg (hcells (.slice A1 L.length c1) (.slice none 0 0) (.slice none 0 0) cf ff)) (by decide)).trans eBcbaa4_45
      have eBcbaa5_43 := (ev_ne Bcbaa4 46 43 (.agg (hcells (.slice A1 L.length c1) (.slice none 0 0) (.slice none 0 0) cf ff)) (by decide)).trans eBcbaa4_43
      have eBcbaa5_44 := (ev_ne Bcbaa4 46 44 (.agg (hcells (.slice A1 L.length c1) (.slice none 0 0) (.slice none 0 0) cf ff)) (by decide)).trans eBcbaa4_44
      have eBcbaa5_42 := (ev_ne Bcbaa4 46 42 (.agg (hcells (.slice A1 L.length c1) (.slice none 0 0) (.slice none 0 0) cf ff)) (by decide)).trans eBcbaa4_42
      have eBcbaa5_0 := (ev_ne Bcbaa4 46 0 (.agg (hcells (.slice A1 L.length c1) (.slice none 0 0) (.slice none 0 0) cf ff)) (by decide)).trans eBcbaa4_0
      have eBcbaa5_6 := (ev_ne Bcbaa4 46 6 (.agg (hcells (.slice A1 L.length c1) (.slice none 0 0) (.slice none 0 0) cf ff)) (by decide)).trans eBcbaa4_6
      have eBcbaa5_8 := (ev_ne Bcbaa4 46 8 (.agg (hcells (.slice A1 L.length c1) (.slice none 0 0) (.slice none 0 0) cf ff)) (by decide)).trans eBcbaa4_8
      generalize Bcbaa4.put (some 46) (.agg (hcells (.slice A1 L.length c1) (.slice none 0 0) (.slice none 0 0) cf ff)) = Bcbaa5 at hsBcbaa5 hdBcbaa5 eBcbaa5_46 eBcbaa5_45 eBcbaa5_43 eBcbaa5_44 eBcbaa5_42 eBcbaa5_0 eBcbaa5_6 eBcbaa5_8 ⊢
      clear eBcbaa4_45 eBcbaa4_43 eBcbaa4_44 eBcbaa4_42 eBcbaa4_0 eBcbaa4_6 eBcbaa4_8 hsBcbaa4 hdBcbaa4
      refine wpAny_ready (rs := [5]) (fuel := 1) (by kernel_rfl) (by decide) ?_
      refine AllReady.cons (o := { dst := some 47, op := Op.box 113 (Operand.tmp 46), type := 78, pos := "huff.go:49", after := #[{ on := 4, ground := Ground.data }], guard := none }) rfl (fun K hK => ?_) AllReady.nil
      refine step_box rfl 113 _ rfl (hcells (.slice A1 L.length c1) (.slice none 0 0) (.slice none 0 0) cf ff) eBcbaa5_46 ?_
      refine hK _ _ ?_
      clear hK K
      change wpAny _ _ ops8 Q 1 _ (Bcbaa5.put (some 47) (PG w1.heap.size 0)) (w1.alloc (.cells (hcells (.slice A1 L.length c1) (.slice none 0 0) (.slice none 0 0) cf ff) 113))
      have hsBcbaa6 : (Bcbaa5.put (some 47) (PG w1.heap.size 0)).tmps.size = 51 := by rw [put_size, hsBcbaa5]
      have hdBcbaa6 : (Bcbaa5.put (some 47) (PG w1.heap.size 0)).defers = a.defers := hdBcbaa5
      have eBcbaa6_47 := ev_same Bcbaa5 47 (PG w1.heap.size 0) (by rw [hsBcbaa5]; decide)
      have eBcbaa6_46 := (ev_ne Bcbaa5 47 46 (PG w1.heap.size 0) (by decide)).trans eBcbaa5_46
      have eBcbaa6_45 := (ev_ne Bcbaa5 47 45 (PG w1.heap.size 0) (by decide)).trans eBcbaa5_45
      have eBcbaa6_43 := (ev_ne Bcbaa5 47 43 (PG w1.heap.size 0) (by decide)).trans eBcbaa5_43
      have eBcbaa6_44 := (ev_ne Bcbaa5 47 44 (PG w1.heap.size 0) (by decide)).trans eBcbaa5_44
      have eBcbaa6_42 := (ev_ne Bcbaa5 47 42 (PG w1.heap.size 0) (by decide)).trans eBcbaa5_42
      have eBcbaa6_0 := (ev_ne Bcbaa5 47 0 (PG w1.heap.size 0) (by decide)).trans eBcbaa5_0
      have eBcbaa6_6 := (ev_ne Bcbaa5 47 6 (PG w1.heap.size 0) (by decide)).trans eBcbaa5_6
      have eBcbaa6_8 := (ev_ne Bcbaa5 47 8 (PG w1.heap.size 0) (by decide)).trans eBcbaa5_8
      generalize Bcbaa5.put (some 47) (PG w1.heap.size 0) = Bcbaa6 at hsBcbaa6 hdBcbaa6 eBcbaa6_47 eBcbaa6_46 eBcbaa6_45 eBcbaa6_43 eBcbaa6_44 eBcbaa6_42 eBcbaa6_0 eBcbaa6_6 eBcbaa6_8 ⊢
      clear eBcbaa5_46 eBcbaa5_45 eBcbaa5_43 eBcbaa5_44 eBcbaa5_42 eBcbaa5_0 eBcbaa5_6 eBcbaa5_8 hsBcbaa5 hdBcbaa5
      refine wpAny_take (i := 6) (fuel := 0) (oi := { dst := some 9, op := Op.assign (Operand.tmp 47), type := 78, pos := "huff.go:49", after := #[{ on := 5, ground := Ground.data }, { on := 1, ground := Ground.chain }, { on := 0, ground := Ground.phase }, { on := 1, ground := Ground.phase }, { on := 2, ground := Ground.phase }, { on := 3, ground := Ground.phase }, { on := 4, ground := Ground.phase }, { on := 5, ground := Ground.phase }], guard := none }) (v := PG w1.heap.size 0) rfl (by kernel_rfl) (by kernel_rfl) (by kernel_rfl) (fun c a w h => hQp c a _ _ w h) (Or.inl ⟨rfl, fun w => ?_⟩) ?_
      · exact congrArg (fun v => Result.ok (Next.value v) w) eBcbaa6_47
      change wpAny _ _ ops8 Q 0 _ (Bcbaa6.put (some 9) (PG w1.heap.size 0)) (w1.alloc (.cells (hcells (.slice A1 L.length c1) (.slice none 0 0) (.slice none 0 0) cf ff) 113))
      have hsBcbaa7 : (Bcbaa6.put (some 9) (PG w1.heap.size 0)).tmps.size = 51 := by rw [put_size, hsBcbaa6]
      have hdBcbaa7 : (Bcbaa6.put (some 9) (PG w1.heap.size 0)).defers = a.defers := hdBcbaa6
      have eBcbaa7_9 := ev_same Bcbaa6 9 (PG w1.heap.size 0) (by rw [hsBcbaa6]; decide)
      have eBcbaa7_47 := (ev_ne Bcbaa6 9 47 (PG w1.heap.size 0) (by decide)).trans eBcbaa6_47
      have eBcbaa7_46 := (ev_ne Bcbaa6 9 46 (PG w1.heap.size 0) (by decide)).trans eBcbaa6_46
      have eBcbaa7_45 := (ev_ne Bcbaa6 9 45 (PG w1.heap.size 0) (by decide)).trans eBcbaa6_45
      have eBcbaa7_43 := (ev_ne Bcbaa6 9 43 (PG w1.heap.size 0) (by decide)).trans eBcbaa6_43
      have eBcbaa7_44 := (ev_ne Bcbaa6 9 44 (PG w1.heap.size 0) (by decide)).trans eBcbaa6_44
      have eBcbaa7_42 := (ev_ne Bcbaa6 9 42 (PG w1.heap.size 0) (by decide)).trans eBcbaa6_42
      have eBcbaa7_0 := (ev_ne Bcbaa6 9 0 (PG w1.heap.size 0) (by decide)).trans eBcbaa6_0
      have eBcbaa7_6 := (ev_ne Bcbaa6 9 6 (PG w1.heap.size 0) (by decide)).trans eBcbaa6_6
      have eBcbaa7_8 := (ev_ne Bcbaa6 9 8 (PG w1.heap.size 0) (by decide)).trans eBcbaa6_8
      generalize Bcbaa6.put (some 9) (PG w1.heap.size 0) = Bcbaa7 at hsBcbaa7 hdBcbaa7 eBcbaa7_9 eBcbaa7_47 eBcbaa7_46 eBcbaa7_45 eBcbaa7_43 eBcbaa7_44 eBcbaa7_42 eBcbaa7_0 eBcbaa7_6 eBcbaa7_8 ⊢
      clear eBcbaa6_47 eBcbaa6_46 eBcbaa6_45 eBcbaa6_43 eBcbaa6_44 eBcbaa6_42 eBcbaa6_0 eBcbaa6_6 eBcbaa6_8 hsBcbaa6 hdBcbaa6
      refine wpAny_done (by kernel_rfl) ?_ _
      exact hq _ w1 A1 c1 hsBcbaa7 hdBcbaa7 eBcbaa7_9 hov hgv
    refine AllReady.cons (o := { dst := some 45, op := Op.load 106 (Operand.tmp 8), type := 106, pos := "huff.go:49", after := #[], guard := none }) rfl (fun K hK => ?_) AllReady.nil
    refine step_load_g rfl 106 _ rfl q eBcb2_8 _ (ia ff 17) _ hrq Try.underlying106 rfl (by rw [size116, ia_size]) ?_
    refine hK _ _ ?_
    clear hK K
    change wpAny _ _ ops8 Q 4 _ (Bcb2.put (some 45) (.agg (ia ff 17))) w
    have hsBcbb3 : (Bcb2.put (some 45) (.agg (ia ff 17))).tmps.size = 51 := by rw [put_size, hsBcb2]
    have hdBcbb3 : (Bcb2.put (some 45) (.agg (ia ff 17))).defers = a.defers := hdBcb2
    have eBcbb3_45 := ev_same Bcb2 45 (.agg (ia ff 17)) (by rw [hsBcb2]; decide)
    have eBcbb3_44 := (ev_ne Bcb2 45 44 (.agg (ia ff 17)) (by decide)).trans eBcb2_44
    have eBcbb3_42 := (ev_ne Bcb2 45 42 (.agg (ia ff 17)) (by decide)).trans eBcb2_42
    have eBcbb3_0 := (ev_ne Bcb2 45 0 (.agg (ia ff 17)) (by decide)).trans eBcb2_0
    have eBcbb3_6 := (ev_ne Bcb2 45 6 (.agg (ia ff 17)) (by decide)).trans eBcb2_6
    have eBcbb3_8 := (ev_ne Bcb2 45 8 (.agg (ia ff 17)) (by decide)).trans eBcb2_8
    generalize Bcb2.put (some 45) (.agg (ia ff 17)) = Bcbb3 at hsBcbb3 hdBcbb3 eBcbb3_45 eBcbb3_44 eBcbb3_42 eBcbb3_0 eBcbb3_6 eBcbb3_8 ⊢
    clear eBcb2_44 eBcb2_42 eBcb2_0 eBcb2_6 eBcb2_8 hsBcb2 hdBcb2
    refine wpAny_ready (rs := [1]) (fuel := 3) (by kernel_rfl) (by decide) ?_
    refine AllReady.cons (o := { dst := some 43, op := Op.call { callee := Callee.value (Operand.func 66), args := #[Operand.tmp 42], argTypes := #[46] }, type := 46, pos := "huff.go:49", after := #[{ on := 0, ground := Ground.data }], guard := none }) rfl (fun K hK => ?_) AllReady.nil
    refine step_call1 rfl 66 _ (run_call32 _ _ _ _ rfl rfl eBcbb3_42) ?_
    refine (cloneI_any A n c L w hr hA hn).mono ?_
    rintro e w1 ⟨v, rfl, hov, hgv⟩
    obtain ⟨A1, c1, rfl⟩ := hov.slice
    have rp1 := hrp.grown hgv (by simp)
    have rq1 := hrq.grown hgv (by simp)
    refine hK _ _ ?_
    clear hK K
    change wpAny _ _ ops8 Q 3 _ (Bcbb3.put (some 43) (.slice A1 L.length c1)) w1
    have hsBcbba4 : (Bcbb3.put (some 43) (.slice A1 L.length c1)).tmps.size = 51 := by rw [put_size, hsBcbb3]
    have hdBcbba4 : (Bcbb3.put (some 43) (.slice A1 L.length c1)).defers = a.defers := hdBcbb3
    have eBcbba4_43 := ev_same Bcbb3 43 (.slice A1 L.length c1) (by rw [hsBcbb3]; decide)
    have eBcbba4_45 := (ev_ne Bcbb3 43 45 (.slice A1 L.length c1) (by decide)).trans eBcbb3_45
    have eBcbba4_44 := (ev_ne Bcbb3 43 44 (.slice A1 L.length c1) (by decide)).trans eBcbb3_44
    have eBcbba4_42 := (ev_ne Bcbb3 43 42 (.slice A1 L.length c1) (by decide)).trans eBcbb3_42
    have eBcbba4_0 := (ev_ne Bcbb3 43 0 (.slice A1 L.length c1) (by decide)).trans eBcbb3_0
    have eBcbba4_6 := (ev_ne Bcbb3 43 6 (.slice A1 L.length c1) (by decide)).trans eBcbb3_6
    have eBcbba4_8 := (ev_ne Bcbb3 43 8 (.slice A1 L.length c1) (by decide)).trans eBcbb3_8
    generalize Bcbb3.put (some 43) (.slice A1 L.length c1) = Bcbba4 at hsBcbba4 hdBcbba4 eBcbba4_43 eBcbba4_45 eBcbba4_44 eBcbba4_42 eBcbba4_0 eBcbba4_6 eBcbba4_8 ⊢
    clear eBcbb3_45 eBcbb3_44 eBcbb3_42 eBcbb3_0 eBcbb3_6 eBcbb3_8 hsBcbb3 hdBcbb3
    refine wpAny_take (i := 4) (fuel := 2) (oi := { dst := some 46, op := Op.build 113 #[(0, Operand.tmp 43), (3, Operand.tmp 44), (4, Operand.tmp 45)], type := 113, pos := "huff.go:49", after := #[{ on := 1, ground := Ground.data }, { on := 2, ground := Ground.data }, { on := 3, ground := Ground.data }], guard := none }) (v := .agg (hcells (.slice A1 L.length c1) (.slice none 0 0) (.slice none 0 0) cf ff)) rfl (by kernel_rfl) (by kernel_rfl) (by kernel_rfl) (fun c a w h => hQp c a _ _ w h) (Or.inl ⟨rfl, fun w => ?_⟩) ?_
    · have e1 := eBcbba4_43
      have e2 := eBcbba4_44
      have e3 := eBcbba4_45
      exact run_build73 _ _ rfl _ _ _ _ _ e1 e2 e3 w
    change wpAny _ _ ops8 Q 2 _ (Bcbba4.put (some 46) (.agg (hcells (.slice A1 L.length c1) (.slice none 0 0) (.slice none 0 0) cf ff))) w1
    have hsBcbba5 : (Bcbba4.put (some 46) (.agg (hcells (.slice A1 L.length c1) (.slice none 0 0) (.slice none 0 0) cf ff))).tmps.size = 51 := by rw [put_size, hsBcbba4]
    have hdBcbba5 : (Bcbba4.put (some 46) (.agg (hcells (.slice A1 L.length c1) (.slice none 0 0) (.slice none 0 0) cf ff))).defers = a.defers := hdBcbba4
    have eBcbba5_46 := ev_same Bcbba4 46 (.agg (hcells (.slice A1 L.length c1) (.slice none 0 0) (.slice none 0 0) cf ff)) (by rw [hsBcbba4]; decide)
    have eBcbba5_43 := (ev_ne Bcbba4 46 43 (.agg (hcells (.slice A1 L.length c1) (.slice none 0 0) (.slice none 0 0) cf ff)) (by decide)).trans eBcbba4_43
    have eBcbba5_45 := (ev_ne Bcbba4 46 45 (.agg (hcells (.slice A1 L.length c1) (.slice none 0 0) (.slice none 0 0) cf ff)) (by decide)).trans eBcbba4_45
    have eBcbba5_44 := (ev_ne Bcbba4 46 44 (.agg (hcells (.slice A1 L.length c1) (.slice none 0 0) (.slice none 0 0) cf ff)) (by decide)).trans eBcbba4_44
    have eBcbba5_42 := (ev_ne Bcbba4 46 42 (.agg (hcells (.slice A1 L.length c1) (.slice none 0 0) (.slice none 0 0) cf ff)) (by decide)).trans eBcbba4_42
    have eBcbba5_0 := (ev_ne Bcbba4 46 0 (.agg (hcells (.slice A1 L.length c1) (.slice none 0 0) (.slice none 0 0) cf ff)) (by decide)).trans eBcbba4_0
    have eBcbba5_6 := (ev_ne Bcbba4 46 6 (.agg (hcells (.slice A1 L.length c1) (.slice none 0 0) (.slice none 0 0) cf ff)) (by decide)).trans eBcbba4_6
    have eBcbba5_8 := (ev_ne Bcbba4 46 8 (.agg (hcells (.slice A1 L.length c1) (.slice none 0 0) (.slice none 0 0) cf ff)) (by decide)).trans eBcbba4_8
    generalize Bcbba4.put (some 46) (.agg (hcells (.slice A1 L.length c1) (.slice none 0 0) (.slice none 0 0) cf ff)) = Bcbba5 at hsBcbba5 hdBcbba5 eBcbba5_46 eBcbba5_43 eBcbba5_45 eBcbba5_44 eBcbba5_42 eBcbba5_0 eBcbba5_6 eBcbba5_8 ⊢
    clear eBcbba4_43 eBcbba4_45 eBcbba4_44 eBcbba4_42 eBcbba4_0 eBcbba4_6 eBcbba4_8 hsBcbba4 hdBcbba4
    refine wpAny_ready (rs := [5]) (fuel := 1) (by kernel_rfl) (by decide) ?_
    refine AllReady.cons (o := { dst := some 47, op := Op.box 113 (Operand.tmp 46), type := 78, pos := "huff.go:49", after := #[{ on := 4, ground := Ground.data }], guard := none }) rfl (fun K hK => ?_) AllReady.nil
    refine step_box rfl 113 _ rfl (hcells (.slice A1 L.length c1) (.slice none 0 0) (.slice none 0 0) cf ff) eBcbba5_46 ?_
    refine hK _ _ ?_
    clear hK K
    change wpAny _ _ ops8 Q 1 _ (Bcbba5.put (some 47) (PG w1.heap.size 0)) (w1.alloc (.cells (hcells (.slice A1 L.length c1) (.slice none 0 0) (.slice none 0 0) cf ff) 113))
    have hsBcbba6 : (Bcbba5.put (some 47) (PG w1.heap.size 0)).tmps.size = 51 := by rw [put_size, hsBcbba5]
    have hdBcbba6 : (Bcbba5.put (some 47) (PG w1.heap.size 0)).defers = a.defers := hdBcbba5
    have eBcbba6_47 := ev_same Bcbba5 47 (PG w1.heap.size 0) (by rw [hsBcbba5]; decide)
    have eBcbba6_46 := (ev_ne Bcbba5 47 46 (PG w1.heap.size 0) (by decide)).trans eBcbba5_46
    have eBcbba6_43 := (ev_ne Bcbba5 47 43 (PG w1.heap.size 0) (by decide)).trans eBcbba5_43
    have eBcbba6_45 := (ev_ne Bcbba5 47 45 (PG w1.heap.size 0) (by decide)).trans eBcbba5_45
    have eBcbba6_44 := (ev_ne Bcbba5 47 44 (PG w1.heap.size 0) (by decide)).trans eBcbba5_44
    have eBcbba6_42 := (ev_ne Bcbba5 47 42 (PG w1.heap.size 0) (by decide)).trans eBcbba5_42
    have eBcbba6_0 := (ev_ne Bcbba5 47 0 (PG w1.heap.size 0) (by decide)).trans eBcbba5_0
    have eBcbba6_6 := (ev_ne Bcbba5 47 6 (PG w1.heap.size 0) (by decide)).trans eBcbba5_6
    have eBcbba6_8 := (ev_ne Bcbba5 47 8 (PG w1.heap.size 0) (by decide)).trans eBcbba5_8
    generalize Bcbba5.put (some 47) (PG w1.heap.size 0) = Bcbba6 at hsBcbba6 hdBcbba6 eBcbba6_47 eBcbba6_46 eBcbba6_43 eBcbba6_45 eBcbba6_44 eBcbba6_42 eBcbba6_0 eBcbba6_6 eBcbba6_8 ⊢
    clear eBcbba5_46 eBcbba5_43 eBcbba5_45 eBcbba5_44 eBcbba5_42 eBcbba5_0 eBcbba5_6 eBcbba5_8 hsBcbba5 hdBcbba5
    refine wpAny_take (i := 6) (fuel := 0) (oi := { dst := some 9, op := Op.assign (Operand.tmp 47), type := 78, pos := "huff.go:49", after := #[{ on := 5, ground := Ground.data }, { on := 1, ground := Ground.chain }, { on := 0, ground := Ground.phase }, { on := 1, ground := Ground.phase }, { on := 2, ground := Ground.phase }, { on := 3, ground := Ground.phase }, { on := 4, ground := Ground.phase }, { on := 5, ground := Ground.phase }], guard := none }) (v := PG w1.heap.size 0) rfl (by kernel_rfl) (by kernel_rfl) (by kernel_rfl) (fun c a w h => hQp c a _ _ w h) (Or.inl ⟨rfl, fun w => ?_⟩) ?_
    · exact congrArg (fun v => Result.ok (Next.value v) w) eBcbba6_47
    change wpAny _ _ ops8 Q 0 _ (Bcbba6.put (some 9) (PG w1.heap.size 0)) (w1.alloc (.cells (hcells (.slice A1 L.length c1) (.slice none 0 0) (.slice none 0 0) cf ff) 113))
    have hsBcbba7 : (Bcbba6.put (some 9) (PG w1.heap.size 0)).tmps.size = 51 := by rw [put_size, hsBcbba6]
    have hdBcbba7 : (Bcbba6.put (some 9) (PG w1.heap.size 0)).defers = a.defers := hdBcbba6
    have eBcbba7_9 := ev_same Bcbba6 9 (PG w1.heap.size 0) (by rw [hsBcbba6]; decide)
    have eBcbba7_47 := (ev_ne Bcbba6 9 47 (PG w1.heap.size 0) (by decide)).trans eBcbba6_47
    have eBcbba7_46 := (ev_ne Bcbba6 9 46 (PG w1.heap.size 0) (by decide)).trans eBcbba6_46
    have eBcbba7_43 := (ev_ne Bcbba6 9 43 (PG w1.heap.size 0) (by decide)).trans eBcbba6_43
    have eBcbba7_45 := (ev_ne Bcbba6 9 45 (PG w1.heap.size 0) (by decide)).trans eBcbba6_45
    have eBcbba7_44 := (ev_ne Bcbba6 9 44 (PG w1.heap.size 0) (by decide)).trans eBcbba6_44
    have eBcbba7_42 := (ev_ne Bcbba6 9 42 (PG w1.heap.size 0) (by decide)).trans eBcbba6_42
    have eBcbba7_0 := (ev_ne Bcbba6 9 0 (PG w1.heap.size 0) (by decide)).trans eBcbba6_0
    have eBcbba7_6 := (ev_ne Bcbba6 9 6 (PG w1.heap.size 0) (by decide)).trans eBcbba6_6
    have eBcbba7_8 := (ev_ne Bcbba6 9 8 (PG w1.heap.size 0) (by decide)).trans eBcbba6_8
    generalize Bcbba6.put (some 9) (PG w1.heap.size 0) = Bcbba7 at hsBcbba7 hdBcbba7 eBcbba7_9 eBcbba7_47 eBcbba7_46 eBcbba7_43 eBcbba7_45 eBcbba7_44 eBcbba7_42 eBcbba7_0 eBcbba7_6 eBcbba7_8 ⊢
    clear eBcbba6_47 eBcbba6_46 eBcbba6_43 eBcbba6_45 eBcbba6_44 eBcbba6_42 eBcbba6_0 eBcbba6_6 eBcbba6_8 hsBcbba6 hdBcbba6
    refine wpAny_done (by kernel_rfl) ?_ _
    exact hq _ w1 A1 c1 hsBcbba7 hdBcbba7 eBcbba7_9 hov hgv
  refine AllReady.cons (o := { dst := some 45, op := Op.load 106 (Operand.tmp 8), type := 106, pos := "huff.go:49", after := #[], guard := none }) rfl (fun K hK => ?_) AllReady.nil
  refine step_load_g rfl 106 _ rfl q eBc1_8 _ (ia ff 17) _ hrq Try.underlying106 rfl (by rw [size116, ia_size]) ?_
  refine hK _ _ ?_
  clear hK K
  change wpAny _ _ ops8 Q 5 _ (Bc1.put (some 45) (.agg (ia ff 17))) w
  have hsBcc2 : (Bc1.put (some 45) (.agg (ia ff 17))).tmps.size = 51 := by rw [put_size, hsBc1]
  have hdBcc2 : (Bc1.put (some 45) (.agg (ia ff 17))).defers = a.defers := hdBc1
  have eBcc2_45 := ev_same Bc1 45 (.agg (ia ff 17)) (by rw [hsBc1]; decide)
  have eBcc2_42 := (ev_ne Bc1 45 42 (.agg (ia ff 17)) (by decide)).trans eBc1_42
  have eBcc2_0 := (ev_ne Bc1 45 0 (.agg (ia ff 17)) (by decide)).trans eBc1_0
  have eBcc2_6 := (ev_ne Bc1 45 6 (.agg (ia ff 17)) (by decide)).trans eBc1_6
  have eBcc2_8 := (ev_ne Bc1 45 8 (.agg (ia ff 17)) (by decide)).trans eBc1_8
  generalize Bc1.put (some 45) (.agg (ia ff 17)) = Bcc2 at hsBcc2 hdBcc2 eBcc2_45 eBcc2_42 eBcc2_0 eBcc2_6 eBcc2_8 ⊢
  clear eBc1_42 eBc1_0 eBc1_6 eBc1_8 hsBc1 hdBc1
  refine wpAny_ready (rs := [1, 2]) (fuel := 4) (by kernel_rfl) (by decide) ?_
  refine AllReady.cons (o := { dst := some 43, op := Op.call { callee := Callee.value (Operand.func 66), args := #[Operand.tmp 42], argTypes := #[46] }, type := 46, pos := "huff.go:49", after := #[{ on := 0, ground := Ground.data }], guard := none }) rfl (fun K hK => ?_) ?_
  · skip
    refine step_call1 rfl 66 _ (run_call32 _ _ _ _ rfl rfl eBcc2_42) ?_
    refine (cloneI_any A n c L w hr hA hn).mono ?_
    rintro e w1 ⟨v, rfl, hov, hgv⟩
    obtain ⟨A1, c1, rfl⟩ := hov.slice
    have rp1 := hrp.grown hgv (by simp)
    have rq1 := hrq.grown hgv (by simp)
    refine hK _ _ ?_
    clear hK K
    change wpAny _ _ ops8 Q 4 _ (Bcc2.put (some 43) (.slice A1 L.length c1)) w1
    have hsBcca3 : (Bcc2.put (some 43) (.slice A1 L.length c1)).tmps.size = 51 := by rw [put_size, hsBcc2]
    have hdBcca3 : (Bcc2.put (some 43) (.slice A1 L.length c1)).defers = a.defers := hdBcc2
    have eBcca3_43 := ev_same Bcc2 43 (.slice A1 L.length c1) (by rw [hsBcc2]; decide)
    have eBcca3_45 := (ev_ne Bcc2 43 45 (.slice A1 L.length c1) (by decide)).trans eBcc2_45
    have eBcca3_42 := (ev_ne Bcc2 43 42 (.slice A1 L.length c1) (by decide)).trans eBcc2_42
    have eBcca3_0 := (ev_ne Bcc2 43 0 (.slice A1 L.length c1) (by decide)).trans eBcc2_0
    have eBcca3_6 := (ev_ne Bcc2 43 6 (.slice A1 L.length c1) (by decide)).trans eBcc2_6
    have eBcca3_8 := (ev_ne Bcc2 43 8 (.slice A1 L.length c1) (by decide)).trans eBcc2_8
    generalize Bcc2.put (some 43) (.slice A1 L.length c1) = Bcca3 at hsBcca3 hdBcca3 eBcca3_43 eBcca3_45 eBcca3_42 eBcca3_0 eBcca3_6 eBcca3_8 ⊢
    clear eBcc2_45 eBcc2_42 eBcc2_0 eBcc2_6 eBcc2_8 hsBcc2 hdBcc2
    refine wpAny_ready (rs := [2]) (fuel := 3) (by kernel_rfl) (by decide) ?_
    refine AllReady.cons (o := { dst := some 44, op := Op.load 102 (Operand.tmp 6), type := 102, pos := "huff.go:49", after := #[], guard := none }) rfl (fun K hK => ?_) AllReady.nil
    refine step_load_g rfl 102 _ rfl p eBcca3_6 _ (ia cf 16) _ rp1 Try.underlying102 rfl (by rw [size114, ia_size]) ?_
    refine hK _ _ ?_
    clear hK K
    change wpAny _ _ ops8 Q 3 _ (Bcca3.put (some 44) (.agg (ia cf 16))) w1
    have hsBccaa4 : (Bcca3.put (some 44) (.agg (ia cf 16))).tmps.size = 51 := by rw [put_size, hsBcca3]
    have hdBccaa4 : (Bcca3.put (some 44) (.agg (ia cf 16))).defers = a.defers := hdBcca3
    have eBccaa4_44 := ev_same Bcca3 44 (.agg (ia cf 16)) (by rw [hsBcca3]; decide)
    have eBccaa4_43 := (ev_ne Bcca3 44 43 (.agg (ia cf 16)) (by decide)).trans eBcca3_43
    have eBccaa4_45 := (ev_ne Bcca3 44 45 (.agg (ia cf 16)) (by decide)).trans eBcca3_45
    have eBccaa4_42 := (ev_ne Bcca3 44 42 (.agg (ia cf 16)) (by decide)).trans eBcca3_42
    have eBccaa4_0 := (ev_ne Bcca3 44 0 (.agg (ia cf 16)) (by decide)).trans eBcca3_0
    have eBccaa4_6 := (ev_ne Bcca3 44 6 (.agg (ia cf 16)) (by decide)).trans eBcca3_6
    have eBccaa4_8 := (ev_ne Bcca3 44 8 (.agg (ia cf 16)) (by decide)).trans eBcca3_8
    generalize Bcca3.put (some 44) (.agg (ia cf 16)) = Bccaa4 at hsBccaa4 hdBccaa4 eBccaa4_44 eBccaa4_43 eBccaa4_45 eBccaa4_42 eBccaa4_0 eBccaa4_6 eBccaa4_8 ⊢
    clear eBcca3_43 eBcca3_45 eBcca3_42 eBcca3_0 eBcca3_6 eBcca3_8 hsBcca3 hdBcca3
    refine wpAny_take (i := 4) (fuel := 2) (oi := { dst := some 46, op := Op.build 113 #[(0, Operand.tmp 43), (3, Operand.tmp 44), (4, Operand.tmp 45)], type := 113, pos := "huff.go:49", after := #[{ on := 1, ground := Ground.data }, { on := 2, ground := Ground.data }, { on := 3, ground := Ground.data }], guard := none }) (v := .agg (hcells (.slice A1 L.length c1) (.slice none 0 0) (.slice none 0 0) cf ff)) rfl (by kernel_rfl) (by kernel_rfl) (by kernel_rfl) (fun c a w h => hQp c a _ _ w h) (Or.inl ⟨rfl, fun w => ?_⟩) ?_
    · have e1 := eBccaa4_43
      have e2 := eBccaa4_44
      have e3 := eBccaa4_45
      exact run_build73 _ _ rfl _ _ _ _ _ e1 e2 e3 w
    change wpAny _ _ ops8 Q 2 _ (Bccaa4.put (some 46) (.agg (hcells (.slice A1 L.length c1) (.slice none 0 0) (.slice none 0 0) cf ff))) w1
    have hsBccaa5 : (Bccaa4.put (some 46) (.agg (hcells (.slice A1 L.length c1) (.slice none 0 0) (.slice none 0 0) cf ff))).tmps.size = 51 := by rw [put_size, hsBccaa4]
    have hdBccaa5 : (Bccaa4.put (some 46) (.agg (hcells (.slice A1 L.length c1) (.slice none 0 0) (.slice none 0 0) cf ff))).defers = a.defers := hdBccaa4
    have eBccaa5_46 := ev_same Bccaa4 46 (.agg (hcells (.slice A1 L.length c1) (.slice none 0 0) (.slice none 0 0) cf ff)) (by rw [hsBccaa4]; decide)
    have eBccaa5_44 := (ev_ne Bccaa4 46 44 (.agg (hcells (.slice A1 L.length c1) (.slice none 0 0) (.slice none 0 0) cf ff)) (by decide)).trans eBccaa4_44
    have eBccaa5_43 := (ev_ne Bccaa4 46 43 (.agg (hcells (.slice A1 L.length c1) (.slice none 0 0) (.slice none 0 0) cf ff)) (by decide)).trans eBccaa4_43
    have eBccaa5_45 := (ev_ne Bccaa4 46 45 (.agg (hcells (.slice A1 L.length c1) (.slice none 0 0) (.slice none 0 0) cf ff)) (by decide)).trans eBccaa4_45
    have eBccaa5_42 := (ev_ne Bccaa4 46 42 (.agg (hcells (.slice A1 L.length c1) (.slice none 0 0) (.slice none 0 0) cf ff)) (by decide)).trans eBccaa4_42
    have eBccaa5_0 := (ev_ne Bccaa4 46 0 (.agg (hcells (.slice A1 L.length c1) (.slice none 0 0) (.slice none 0 0) cf ff)) (by decide)).trans eBccaa4_0
    have eBccaa5_6 := (ev_ne Bccaa4 46 6 (.agg (hcells (.slice A1 L.length c1) (.slice none 0 0) (.slice none 0 0) cf ff)) (by decide)).trans eBccaa4_6
    have eBccaa5_8 := (ev_ne Bccaa4 46 8 (.agg (hcells (.slice A1 L.length c1) (.slice none 0 0) (.slice none 0 0) cf ff)) (by decide)).trans eBccaa4_8
    generalize Bccaa4.put (some 46) (.agg (hcells (.slice A1 L.length c1) (.slice none 0 0) (.slice none 0 0) cf ff)) = Bccaa5 at hsBccaa5 hdBccaa5 eBccaa5_46 eBccaa5_44 eBccaa5_43 eBccaa5_45 eBccaa5_42 eBccaa5_0 eBccaa5_6 eBccaa5_8 ⊢
    clear eBccaa4_44 eBccaa4_43 eBccaa4_45 eBccaa4_42 eBccaa4_0 eBccaa4_6 eBccaa4_8 hsBccaa4 hdBccaa4
    refine wpAny_ready (rs := [5]) (fuel := 1) (by kernel_rfl) (by decide) ?_
    refine AllReady.cons (o := { dst := some 47, op := Op.box 113 (Operand.tmp 46), type := 78, pos := "huff.go:49", after := #[{ on := 4, ground := Ground.data }], guard := none }) rfl (fun K hK => ?_) AllReady.nil
    refine step_box rfl 113 _ rfl (hcells (.slice A1 L.length c1) (.slice none 0 0) (.slice none 0 0) cf ff) eBccaa5_46 ?_
    refine hK _ _ ?_
    clear hK K
    change wpAny _ _ ops8 Q 1 _ (Bccaa5.put (some 47) (PG w1.heap.size 0)) (w1.alloc (.cells (hcells (.slice A1 L.length c1) (.slice none 0 0) (.slice none 0 0) cf ff) 113))
    have hsBccaa6 : (Bccaa5.put (some 47) (PG w1.heap.size 0)).tmps.size = 51 := by rw [put_size, hsBccaa5]
    have hdBccaa6 : (Bccaa5.put (some 47) (PG w1.heap.size 0)).defers = a.defers := hdBccaa5
    have eBccaa6_47 := ev_same Bccaa5 47 (PG w1.heap.size 0) (by rw [hsBccaa5]; decide)
    have eBccaa6_46 := (ev_ne Bccaa5 47 46 (PG w1.heap.size 0) (by decide)).trans eBccaa5_46
    have eBccaa6_44 := (ev_ne Bccaa5 47 44 (PG w1.heap.size 0) (by decide)).trans eBccaa5_44
    have eBccaa6_43 := (ev_ne Bccaa5 47 43 (PG w1.heap.size 0) (by decide)).trans eBccaa5_43
    have eBccaa6_45 := (ev_ne Bccaa5 47 45 (PG w1.heap.size 0) (by decide)).trans eBccaa5_45
    have eBccaa6_42 := (ev_ne Bccaa5 47 42 (PG w1.heap.size 0) (by decide)).trans eBccaa5_42
    have eBccaa6_0 := (ev_ne Bccaa5 47 0 (PG w1.heap.size 0) (by decide)).trans eBccaa5_0
    have eBccaa6_6 := (ev_ne Bccaa5 47 6 (PG w1.heap.size 0) (by decide)).trans eBccaa5_6
    have eBccaa6_8 := (ev_ne Bccaa5 47 8 (PG w1.heap.size 0) (by decide)).trans eBccaa5_8
    generalize Bccaa5.put (some 47) (PG w1.heap.size 0) = Bccaa6 at hsBccaa6 hdBccaa6 eBccaa6_47 eBccaa6_46 eBccaa6_44 eBccaa6_43 eBccaa6_45 eBccaa6_42 eBccaa6_0 eBccaa6_6 eBccaa6_8 ⊢
    clear eBccaa5_46 eBccaa5_44 eBccaa5_43 eBccaa5_45 eBccaa5_42 eBccaa5_0 eBccaa5_6 eBccaa5_8 hsBccaa5 hdBccaa5
    refine wpAny_take (i := 6) (fuel := 0) (oi := { dst := some 9, op := Op.assign (Operand.tmp 47), type := 78, pos := "huff.go:49", after := #[{ on := 5, ground := Ground.data }, { on := 1, ground := Ground.chain }, { on := 0, ground := Ground.phase }, { on := 1, ground := Ground.phase }, { on := 2, ground := Ground.phase }, { on := 3, ground := Ground.phase }, { on := 4, ground := Ground.phase }, { on := 5, ground := Ground.phase }], guard := none }) (v := PG w1.heap.size 0) rfl (by kernel_rfl) (by kernel_rfl) (by kernel_rfl) (fun c a w h => hQp c a _ _ w h) (Or.inl ⟨rfl, fun w => ?_⟩) ?_
    · exact congrArg (fun v => Result.ok (Next.value v) w) eBccaa6_47
    change wpAny _ _ ops8 Q 0 _ (Bccaa6.put (some 9) (PG w1.heap.size 0)) (w1.alloc (.cells (hcells (.slice A1 L.length c1) (.slice none 0 0) (.slice none 0 0) cf ff) 113))
    have hsBccaa7 : (Bccaa6.put (some 9) (PG w1.heap.size 0)).tmps.size = 51 := by rw [put_size, hsBccaa6]
    have hdBccaa7 : (Bccaa6.put (some 9) (PG w1.heap.size 0)).defers = a.defers := hdBccaa6
    have eBccaa7_9 := ev_same Bccaa6 9 (PG w1.heap.size 0) (by rw [hsBccaa6]; decide)
    have eBccaa7_47 := (ev_ne Bccaa6 9 47 (PG w1.heap.size 0) (by decide)).trans eBccaa6_47
    have eBccaa7_46 := (ev_ne Bccaa6 9 46 (PG w1.heap.size 0) (by decide)).trans eBccaa6_46
    have eBccaa7_44 := (ev_ne Bccaa6 9 44 (PG w1.heap.size 0) (by decide)).trans eBccaa6_44
    have eBccaa7_43 := (ev_ne Bccaa6 9 43 (PG w1.heap.size 0) (by decide)).trans eBccaa6_43
    have eBccaa7_45 := (ev_ne Bccaa6 9 45 (PG w1.heap.size 0) (by decide)).trans eBccaa6_45
    have eBccaa7_42 := (ev_ne Bccaa6 9 42 (PG w1.heap.size 0) (by decide)).trans eBccaa6_42
    have eBccaa7_0 := (ev_ne Bccaa6 9 0 (PG w1.heap.size 0) (by decide)).trans eBccaa6_0
    have eBccaa7_6 := (ev_ne Bccaa6 9 6 (PG w1.heap.size 0) (by decide)).trans eBccaa6_6
    have eBccaa7_8 := (ev_ne Bccaa6 9 8 (PG w1.heap.size 0) (by decide)).trans eBccaa6_8
    generalize Bccaa6.put (some 9) (PG w1.heap.size 0) = Bccaa7 at hsBccaa7 hdBccaa7 eBccaa7_9 eBccaa7_47 eBccaa7_46 eBccaa7_44 eBccaa7_43 eBccaa7_45 eBccaa7_42 eBccaa7_0 eBccaa7_6 eBccaa7_8 ⊢
    clear eBccaa6_47 eBccaa6_46 eBccaa6_44 eBccaa6_43 eBccaa6_45 eBccaa6_42 eBccaa6_0 eBccaa6_6 eBccaa6_8 hsBccaa6 hdBccaa6
    refine wpAny_done (by kernel_rfl) ?_ _
    exact hq _ w1 A1 c1 hsBccaa7 hdBccaa7 eBccaa7_9 hov hgv
  refine AllReady.cons (o := { dst := some 44, op := Op.load 102 (Operand.tmp 6), type := 102, pos := "huff.go:49", after := #[], guard := none }) rfl (fun K hK => ?_) AllReady.nil
  refine step_load_g rfl 102 _ rfl p eBcc2_6 _ (ia cf 16) _ hrp Try.underlying102 rfl (by rw [size114, ia_size]) ?_
  refine hK _ _ ?_
  clear hK K
  change wpAny _ _ ops8 Q 4 _ (Bcc2.put (some 44) (.agg (ia cf 16))) w
  have hsBccb3 : (Bcc2.put (some 44) (.agg (ia cf 16))).tmps.size = 51 := by rw [put_size, hsBcc2]
  have hdBccb3 : (Bcc2.put (some 44) (.agg (ia cf 16))).defers = a.defers := hdBcc2
  have eBccb3_44 := ev_same Bcc2 44 (.agg (ia cf 16)) (by rw [hsBcc2]; decide)
  have eBccb3_45 := (ev_ne Bcc2 44 45 (.agg (ia cf 16)) (by decide)).trans eBcc2_45
  have eBccb3_42 := (ev_ne Bcc2 44 42 (.agg (ia cf 16)) (by decide)).trans eBcc2_42
  have eBccb3_0 := (ev_ne Bcc2 44 0 (.agg (ia cf 16)) (by decide)).trans eBcc2_0
  have eBccb3_6 := (ev_ne Bcc2 44 6 (.agg (ia cf 16)) (by decide)).trans eBcc2_6
  have eBccb3_8 := (ev_ne Bcc2 44 8 (.agg (ia cf 16)) (by decide)).trans eBcc2_8
  generalize Bcc2.put (some 44) (.agg (ia cf 16)) = Bccb3 at hsBccb3 hdBccb3 eBccb3_44 eBccb3_45 eBccb3_42 eBccb3_0 eBccb3_6 eBccb3_8 ⊢
  clear eBcc2_45 eBcc2_42 eBcc2_0 eBcc2_6 eBcc2_8 hsBcc2 hdBcc2
  refine wpAny_ready (rs := [1]) (fuel := 3) (by kernel_rfl) (by decide) ?_
  refine AllReady.cons (o := { dst := some 43, op := Op.call { callee := Callee.value (Operand.func 66), args := #[Operand.tmp 42], argTypes := #[46] }, type := 46, pos := "huff.go:49", after := #[{ on := 0, ground := Ground.data }], guard := none }) rfl (fun K hK => ?_) AllReady.nil
  refine step_call1 rfl 66 _ (run_call32 _ _ _ _ rfl rfl eBccb3_42) ?_
  refine (cloneI_any A n c L w hr hA hn).mono ?_
  rintro e w1 ⟨v, rfl, hov, hgv⟩
  obtain ⟨A1, c1, rfl⟩ := hov.slice
  have rp1 := hrp.grown hgv (by simp)
  have rq1 := hrq.grown hgv (by simp)
  refine hK _ _ ?_
  clear hK K
  change wpAny _ _ ops8 Q 3 _ (Bccb3.put (some 43) (.slice A1 L.length c1)) w1
  have hsBccba4 : (Bccb3.put (some 43) (.slice A1 L.length c1)).tmps.size = 51 := by rw [put_size, hsBccb3]
  have hdBccba4 : (Bccb3.put (some 43) (.slice A1 L.length c1)).defers = a.defers := hdBccb3
  have eBccba4_43 := ev_same Bccb3 43 (.slice A1 L.length c1) (by rw [hsBccb3]; decide)
  have eBccba4_44 := (ev_ne Bccb3 43 44 (.slice A1 L.length c1) (by decide)).trans eBccb3_44
  have eBccba4_45 := (ev_ne Bccb3 43 45 (.slice A1 L.length c1) (by decide)).trans eBccb3_45
  have eBccba4_42 := (ev_ne Bccb3 43 42 (.slice A1 L.length c1) (by decide)).trans eBccb3_42
  have eBccba4_0 := (ev_ne Bccb3 43 0 (.slice A1 L.length c1) (by decide)).trans eBccb3_0
  have eBccba4_6 := (ev_ne Bccb3 43 6 (.slice A1 L.length c1) (by decide)).trans eBccb3_6
  have eBccba4_8 := (ev_ne Bccb3 43 8 (.slice A1 L.length c1) (by decide)).trans eBccb3_8
  generalize Bccb3.put (some 43) (.slice A1 L.length c1) = Bccba4 at hsBccba4 hdBccba4 eBccba4_43 eBccba4_44 eBccba4_45 eBccba4_42 eBccba4_0 eBccba4_6 eBccba4_8 ⊢
  clear eBccb3_44 eBccb3_45 eBccb3_42 eBccb3_0 eBccb3_6 eBccb3_8 hsBccb3 hdBccb3
  refine wpAny_take (i := 4) (fuel := 2) (oi := { dst := some 46, op := Op.build 113 #[(0, Operand.tmp 43), (3, Operand.tmp 44), (4, Operand.tmp 45)], type := 113, pos := "huff.go:49", after := #[{ on := 1, ground := Ground.data }, { on := 2, ground := Ground.data }, { on := 3, ground := Ground.data }], guard := none }) (v := .agg (hcells (.slice A1 L.length c1) (.slice none 0 0) (.slice none 0 0) cf ff)) rfl (by kernel_rfl) (by kernel_rfl) (by kernel_rfl) (fun c a w h => hQp c a _ _ w h) (Or.inl ⟨rfl, fun w => ?_⟩) ?_
  · have e1 := eBccba4_43
    have e2 := eBccba4_44
    have e3 := eBccba4_45
    exact run_build73 _ _ rfl _ _ _ _ _ e1 e2 e3 w
  change wpAny _ _ ops8 Q 2 _ (Bccba4.put (some 46) (.agg (hcells (.slice A1 L.length c1) (.slice none 0 0) (.slice none 0 0) cf ff))) w1
  have hsBccba5 : (Bccba4.put (some 46) (.agg (hcells (.slice A1 L.length c1) (.slice none 0 0) (.slice none 0 0) cf ff))).tmps.size = 51 := by rw [put_size, hsBccba4]
  have hdBccba5 : (Bccba4.put (some 46) (.agg (hcells (.slice A1 L.length c1) (.slice none 0 0) (.slice none 0 0) cf ff))).defers = a.defers := hdBccba4
  have eBccba5_46 := ev_same Bccba4 46 (.agg (hcells (.slice A1 L.length c1) (.slice none 0 0) (.slice none 0 0) cf ff)) (by rw [hsBccba4]; decide)
  have eBccba5_43 := (ev_ne Bccba4 46 43 (.agg (hcells (.slice A1 L.length c1) (.slice none 0 0) (.slice none 0 0) cf ff)) (by decide)).trans eBccba4_43
  have eBccba5_44 := (ev_ne Bccba4 46 44 (.agg (hcells (.slice A1 L.length c1) (.slice none 0 0) (.slice none 0 0) cf ff)) (by decide)).trans eBccba4_44
  have eBccba5_45 := (ev_ne Bccba4 46 45 (.agg (hcells (.slice A1 L.length c1) (.slice none 0 0) (.slice none 0 0) cf ff)) (by decide)).trans eBccba4_45
  have eBccba5_42 := (ev_ne Bccba4 46 42 (.agg (hcells (.slice A1 L.length c1) (.slice none 0 0) (.slice none 0 0) cf ff)) (by decide)).trans eBccba4_42
  have eBccba5_0 := (ev_ne Bccba4 46 0 (.agg (hcells (.slice A1 L.length c1) (.slice none 0 0) (.slice none 0 0) cf ff)) (by decide)).trans eBccba4_0
  have eBccba5_6 := (ev_ne Bccba4 46 6 (.agg (hcells (.slice A1 L.length c1) (.slice none 0 0) (.slice none 0 0) cf ff)) (by decide)).trans eBccba4_6
  have eBccba5_8 := (ev_ne Bccba4 46 8 (.agg (hcells (.slice A1 L.length c1) (.slice none 0 0) (.slice none 0 0) cf ff)) (by decide)).trans eBccba4_8
  generalize Bccba4.put (some 46) (.agg (hcells (.slice A1 L.length c1) (.slice none 0 0) (.slice none 0 0) cf ff)) = Bccba5 at hsBccba5 hdBccba5 eBccba5_46 eBccba5_43 eBccba5_44 eBccba5_45 eBccba5_42 eBccba5_0 eBccba5_6 eBccba5_8 ⊢
  clear eBccba4_43 eBccba4_44 eBccba4_45 eBccba4_42 eBccba4_0 eBccba4_6 eBccba4_8 hsBccba4 hdBccba4
  refine wpAny_ready (rs := [5]) (fuel := 1) (by kernel_rfl) (by decide) ?_
  refine AllReady.cons (o := { dst := some 47, op := Op.box 113 (Operand.tmp 46), type := 78, pos := "huff.go:49", after := #[{ on := 4, ground := Ground.data }], guard := none }) rfl (fun K hK => ?_) AllReady.nil
  refine step_box rfl 113 _ rfl (hcells (.slice A1 L.length c1) (.slice none 0 0) (.slice none 0 0) cf ff) eBccba5_46 ?_
  refine hK _ _ ?_
  clear hK K
  change wpAny _ _ ops8 Q 1 _ (Bccba5.put (some 47) (PG w1.heap.size 0)) (w1.alloc (.cells (hcells (.slice A1 L.length c1) (.slice none 0 0) (.slice none 0 0) cf ff) 113))
  have hsBccba6 : (Bccba5.put (some 47) (PG w1.heap.size 0)).tmps.size = 51 := by rw [put_size, hsBccba5]
  have hdBccba6 : (Bccba5.put (some 47) (PG w1.heap.size 0)).defers = a.defers := hdBccba5
  have eBccba6_47 := ev_same Bccba5 47 (PG w1.heap.size 0) (by rw [hsBccba5]; decide)
  have eBccba6_46 := (ev_ne Bccba5 47 46 (PG w1.heap.size 0) (by decide)).trans eBccba5_46
  have eBccba6_43 := (ev_ne Bccba5 47 43 (PG w1.heap.size 0) (by decide)).trans eBccba5_43
  have eBccba6_44 := (ev_ne Bccba5 47 44 (PG w1.heap.size 0) (by decide)).trans eBccba5_44
  have eBccba6_45 := (ev_ne Bccba5 47 45 (PG w1.heap.size 0) (by decide)).trans eBccba5_45
  have eBccba6_42 := (ev_ne Bccba5 47 42 (PG w1.heap.size 0) (by decide)).trans eBccba5_42
  have eBccba6_0 := (ev_ne Bccba5 47 0 (PG w1.heap.size 0) (by decide)).trans eBccba5_0
  have eBccba6_6 := (ev_ne Bccba5 47 6 (PG w1.heap.size 0) (by decide)).trans eBccba5_6
  have eBccba6_8 := (ev_ne Bccba5 47 8 (PG w1.heap.size 0) (by decide)).trans eBccba5_8
  generalize Bccba5.put (some 47) (PG w1.heap.size 0) = Bccba6 at hsBccba6 hdBccba6 eBccba6_47 eBccba6_46 eBccba6_43 eBccba6_44 eBccba6_45 eBccba6_42 eBccba6_0 eBccba6_6 eBccba6_8 ⊢
  clear eBccba5_46 eBccba5_43 eBccba5_44 eBccba5_45 eBccba5_42 eBccba5_0 eBccba5_6 eBccba5_8 hsBccba5 hdBccba5
  refine wpAny_take (i := 6) (fuel := 0) (oi := { dst := some 9, op := Op.assign (Operand.tmp 47), type := 78, pos := "huff.go:49", after := #[{ on := 5, ground := Ground.data }, { on := 1, ground := Ground.chain }, { on := 0, ground := Ground.phase }, { on := 1, ground := Ground.phase }, { on := 2, ground := Ground.phase }, { on := 3, ground := Ground.phase }, { on := 4, ground := Ground.phase }, { on := 5, ground := Ground.phase }], guard := none }) (v := PG w1.heap.size 0) rfl (by kernel_rfl) (by kernel_rfl) (by kernel_rfl) (fun c a w h => hQp c a _ _ w h) (Or.inl ⟨rfl, fun w => ?_⟩) ?_
  · exact congrArg (fun v => Result.ok (Next.value v) w) eBccba6_47
  change wpAny _ _ ops8 Q 0 _ (Bccba6.put (some 9) (PG w1.heap.size 0)) (w1.alloc (.cells (hcells (.slice A1 L.length c1) (.slice none 0 0) (.slice none 0 0) cf ff) 113))
  have hsBccba7 : (Bccba6.put (some 9) (PG w1.heap.size 0)).tmps.size = 51 := by rw [put_size, hsBccba6]
  have hdBccba7 : (Bccba6.put (some 9) (PG w1.heap.size 0)).defers = a.defers := hdBccba6
  have eBccba7_9 := ev_same Bccba6 9 (PG w1.heap.size 0) (by rw [hsBccba6]; decide)
  have eBccba7_47 := (ev_ne Bccba6 9 47 (PG w1.heap.size 0) (by decide)).trans eBccba6_47
  have eBccba7_46 := (ev_ne Bccba6 9 46 (PG w1.heap.size 0) (by decide)).trans eBccba6_46
  have eBccba7_43 := (ev_ne Bccba6 9 43 (PG w1.heap.size 0) (by decide)).trans eBccba6_43
  have eBccba7_44 := (ev_ne Bccba6 9 44 (PG w1.heap.size 0) (by decide)).trans eBccba6_44
  have eBccba7_45 := (ev_ne Bccba6 9 45 (PG w1.heap.size 0) (by decide)).trans eBccba6_45
  have eBccba7_42 := (ev_ne Bccba6 9 42 (PG w1.heap.size 0) (by decide)).trans eBccba6_42
  have eBccba7_0 := (ev_ne Bccba6 9 0 (PG w1.heap.size 0) (by decide)).trans eBccba6_0
  have eBccba7_6 := (ev_ne Bccba6 9 6 (PG w1.heap.size 0) (by decide)).trans eBccba6_6
  have eBccba7_8 := (ev_ne Bccba6 9 8 (PG w1.heap.size 0) (by decide)).trans eBccba6_8
  generalize Bccba6.put (some 9) (PG w1.heap.size 0) = Bccba7 at hsBccba7 hdBccba7 eBccba7_9 eBccba7_47 eBccba7_46 eBccba7_43 eBccba7_44 eBccba7_45 eBccba7_42 eBccba7_0 eBccba7_6 eBccba7_8 ⊢
  clear eBccba6_47 eBccba6_46 eBccba6_43 eBccba6_44 eBccba6_45 eBccba6_42 eBccba6_0 eBccba6_6 eBccba6_8 hsBccba6 hdBccba6
  refine wpAny_done (by kernel_rfl) ?_ _
  exact hq _ w1 A1 c1 hsBccba7 hdBccba7 eBccba7_9 hov hgv
end Go.Proofs.Ytnadnokjhinmcaa
