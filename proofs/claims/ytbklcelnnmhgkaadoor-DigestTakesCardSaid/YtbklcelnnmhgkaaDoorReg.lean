/- The statement h.state = mixed(h.state, h.block) of Write: a region that draws its order, walked by hand over an act that is a variable. -/
import Derived.Test.YtbklcelnnmhgkaaDoorMix
import Derived.Test.YtbklcelnnmhgkaaDoorHash
namespace Go.Proofs.YtbklcelnnmhgkaaDoor
open Go.RowKit

theorem ev_same (a : Act) (i : Nat) (v : Value) (h : i < a.tmps.size) : (a.put (some i) v).eval (.tmp i) = v := by
  simp [Act.put, Act.eval, h]
theorem ev_ne (a : Act) (i j : Nat) (v : Value) (h : i ≠ j) : (a.put (some i) v).eval (.tmp j) = a.eval (.tmp j) := by
  simp [Act.put, Act.eval, h]
theorem put_size (a : Act) (i : Nat) (v : Value) : (a.put (some i) v).tmps.size = a.tmps.size := by simp [Act.put]

theorem put_comm (a : Act) (i j : Nat) (u v : Value) (h : i ≠ j) : (a.put (some i) u).put (some j) v = (a.put (some j) v).put (some i) u := by
  simp only [Act.put]
  congr 1
  exact Array.setIfInBounds_comm _ _ h

abbrev PG (g : Nat) (o : Nat) : Value := .pointer (some ⟨g, o, none⟩)

theorem field49_0 (g : Nat) (w : World) : (Instr.fieldAt 69 (PG g 0) 0).run Tryd.prog w = .ok (PG g 0) w := by go_simp
theorem field49_1 (g : Nat) (w : World) : (Instr.fieldAt 69 (PG g 0) 1).run Tryd.prog w = .ok (PG g 8) w := by go_simp

theorem run_nilCheck (ρ : Operand → Value) (o : Oper) (x : Operand) (ho : o.op = .nilCheck x) (g off : Nat) (hx : ρ x = PG g off) (w : World) : (execOp ρ o).run Tryd.prog w = .ok (.value (PG g off)) w := by
  unfold execOp
  simp only [ho, hx]
  rfl
theorem run_field0 (ρ : Operand → Value) (o : Oper) (x : Operand) (ho : o.op = .fieldAddr 69 x 0) (g : Nat) (hx : ρ x = PG g 0) (w : World) : (execOp ρ o).run Tryd.prog w = .ok (.value (PG g 0)) w := by
  unfold execOp
  simp only [ho, hx, Sem.run_bind, field49_0, Result.andThen_ok]
  rfl
theorem run_field1 (ρ : Operand → Value) (o : Oper) (x : Operand) (ho : o.op = .fieldAddr 69 x 1) (g : Nat) (hx : ρ x = PG g 0) (w : World) : (execOp ρ o).run Tryd.prog w = .ok (.value (PG g 8)) w := by
  unfold execOp
  simp only [ho, hx, Sem.run_bind, field49_1, Result.andThen_ok]
  rfl
theorem run_call18 (ρ : Operand → Value) (o : Oper) (v1 v2 : Value) (ho : o.op = .call { callee := .value (.func 37), args := #[.tmp 42, .tmp 46], argTypes := #[52, 67] }) (hf : ρ (.func 37) = .func (.func 37) #[] #[]) (e1 : ρ (.tmp 42) = v1) (e2 : ρ (.tmp 46) = v2) (w : World) :
    (execOp ρ o).run Tryd.prog w = .ok (.enter 37 #[v1, v2]) w := by
  unfold execOp
  simp only [ho]
  go_simp

/-- A call of mixed in a region that draws. -/
theorem step_call18 {ops : Array Oper} {o : Oper} {a : Act} {K : Act → World → Prop} {Q : Exit → Act → World → Prop} {E : Prop} {w : World} (v1 v2 : Value) (hgd : o.guard = none)
    (ho : o.op = .call { callee := .value (.func 37), args := #[.tmp 42, .tmp 46], argTypes := #[52, 67] }) (e1 : a.eval (.tmp 42) = v1) (e2 : a.eval (.tmp 46) = v2)
    (h : Calls Tryd.prog 37 #[v1, v2] w fun
      | .returned v, w'' => K (a.put o.dst v) w''
      | .panicked chain, w'' => Q (.panic chain) a w''
      | .outgrown, _ => LetsOut Q) : if Region.wanted o (yielded ops a.tmps) = true then Oper.wp Tryd.prog o a w K Q else E := by
  rw [if_pos (by simp [Region.wanted, hgd])]
  unfold Oper.wp
  rw [run_call18 a.eval o v1 v2 ho rfl e1 e2 w, Oper.upon_enter]
  exact h

/-- The region's operations. -/
def ops9 : Array Oper := #[{ dst := some 38, op := Op.move (Operand.tmp 0), type := 60, pos := "sha.go:54", after := #[], guard := none }, { dst := some 39, op := Op.move (Operand.tmp 0), type := 60, pos := "sha.go:54", after := #[], guard := none }, { dst := some 40, op := Op.nilCheck (Operand.tmp 39), type := 0, pos := "sha.go:54", after := #[{ on := 1, ground := Ground.data }], guard := none }, { dst := some 41, op := Op.fieldAddr 69 (Operand.tmp 40) 0, type := 0, pos := "sha.go:54", after := #[{ on := 2, ground := Ground.data }], guard := none }, { dst := some 42, op := Op.load 52 (Operand.tmp 41), type := 52, pos := "sha.go:54", after := #[{ on := 3, ground := Ground.data }], guard := none }, { dst := some 43, op := Op.move (Operand.tmp 0), type := 60, pos := "sha.go:54", after := #[], guard := none }, { dst := some 44, op := Op.nilCheck (Operand.tmp 43), type := 0, pos := "sha.go:54", after := #[{ on := 5, ground := Ground.data }], guard := none }, { dst := some 45, op := Op.fieldAddr 69 (Operand.tmp 44) 1, type := 0, pos := "sha.go:54", after := #[{ on := 6, ground := Ground.data }], guard := none }, { dst := some 46, op := Op.load 67 (Operand.tmp 45), type := 67, pos := "sha.go:54", after := #[{ on := 7, ground := Ground.data }], guard := none }, { dst := some 47, op := Op.call { callee := Callee.value (Operand.func 37), args := #[Operand.tmp 42, Operand.tmp 46], argTypes := #[52, 67] }, type := 52, pos := "sha.go:54", after := #[{ on := 4, ground := Ground.data }, { on := 8, ground := Ground.data }], guard := none }, { dst := some 48, op := Op.nilCheck (Operand.tmp 38), type := 0, pos := "sha.go:54", after := #[{ on := 0, ground := Ground.data }, { on := 0, ground := Ground.phase }, { on := 1, ground := Ground.phase }, { on := 2, ground := Ground.phase }, { on := 3, ground := Ground.phase }, { on := 4, ground := Ground.phase }, { on := 5, ground := Ground.phase }, { on := 6, ground := Ground.phase }, { on := 7, ground := Ground.phase }, { on := 8, ground := Ground.phase }, { on := 9, ground := Ground.phase }], guard := none }, { dst := some 49, op := Op.fieldAddr 69 (Operand.tmp 48) 0, type := 0, pos := "sha.go:54", after := #[{ on := 10, ground := Ground.data }, { on := 0, ground := Ground.phase }, { on := 1, ground := Ground.phase }, { on := 2, ground := Ground.phase }, { on := 3, ground := Ground.phase }, { on := 4, ground := Ground.phase }, { on := 5, ground := Ground.phase }, { on := 6, ground := Ground.phase }, { on := 7, ground := Ground.phase }, { on := 8, ground := Ground.phase }, { on := 9, ground := Ground.phase }], guard := none }, { dst := none, op := Op.store 52 (Operand.tmp 49) (Operand.tmp 47), type := 0, pos := "sha.go:54", after := #[{ on := 11, ground := Ground.data }, { on := 9, ground := Ground.data }, { on := 9, ground := Ground.chain }, { on := 0, ground := Ground.phase }, { on := 1, ground := Ground.phase }, { on := 2, ground := Ground.phase }, { on := 3, ground := Ground.phase }, { on := 4, ground := Ground.phase }, { on := 5, ground := Ground.phase }, { on := 6, ground := Ground.phase }, { on := 7, ground := Ground.phase }, { on := 8, ground := Ground.phase }, { on := 9, ground := Ground.phase }], guard := none }]

set_option maxHeartbeats 400000 in
theorem region9 (a : Act) (w : World) (Q : Exit → Act → World → Prop) (g : Nat) (h : HS) (hs : a.tmps.size = 55) (h0 : a.eval (.tmp 0) = PG g 0) (hh : HashAt w g h) (ht : Tabs w)
    (hQp : ∀ c a (i : Nat) v w, Q (.panic c) (a.put (some i) v) w → Q (.panic c) a w)
    (h1 : ∀ w', HashAt w' g ⟨mixP h.st h.blk, h.blk, h.n⟩ → w.grownBy w' (some g) →
      Q .normal ((((((((((((a.put (some 38) (PG g 0)).put (some 39) (PG g 0)).put (some 40) (PG g 0)).put (some 41) (PG g 0)).put (some 43) (PG g 0)).put (some 44) (PG g 0)).put (some 45) (PG g 8)).put (some 42) (.agg (u32s h.st.list))).put (some 46) (.agg (u8s h.blk))).put (some 47) (.agg (u32s (mixP h.st h.blk).list))).put (some 48) (PG g 0)).put (some 49) (PG g 0)) w') :
    (Code.region 9 ops9 true).wp Tryd.prog Q a w := by
  refine wp_region_any (by kernel_rfl) ?_
  change wpAny _ _ _ _ _ _ _ (World.drew _)
  have hh := hh.drew
  have ht : Tabs w.drew := ⟨ht.k, ht.s, ht.size⟩
  have h1 : ∀ w', HashAt w' g ⟨mixP h.st h.blk, h.blk, h.n⟩ → w.drew.grownBy w' (some g) → _ := fun w' hx hy => h1 w' hx ⟨hy.os, hy.tape, hy.output, hy.size, hy.block⟩
  generalize w.drew = w at hh ht h1 ⊢
  show wpAny _ _ ops9 Q 13 (Array.replicate 13 false) a w
  refine wpAny_take (i := 0) (fuel := 12) (oi := { dst := some 38, op := Op.move (Operand.tmp 0), type := 60, pos := "sha.go:54", after := #[], guard := none }) (v := PG g 0) rfl (by kernel_rfl) (by kernel_rfl) (by kernel_rfl) (fun c a w h => hQp c a _ _ w h) (Or.inl ⟨rfl, fun w => ?_⟩) ?_
  · have e : (a).eval (.tmp 0) = PG g 0 := h0
    exact congrArg (fun v => Result.ok (Next.value v) w) e
  show wpAny _ _ ops9 Q 12 _ (a.put (some 38) (PG g 0)) w
  refine wpAny_take (i := 1) (fuel := 11) (oi := { dst := some 39, op := Op.move (Operand.tmp 0), type := 60, pos := "sha.go:54", after := #[], guard := none }) (v := PG g 0) rfl (by kernel_rfl) (by kernel_rfl) (by kernel_rfl) (fun c a w h => hQp c a _ _ w h) (Or.inl ⟨rfl, fun w => ?_⟩) ?_
  · have e : (a.put (some 38) (PG g 0)).eval (.tmp 0) = PG g 0 := (ev_ne _ _ _ _ (by decide)).trans (h0)
    exact congrArg (fun v => Result.ok (Next.value v) w) e
  show wpAny _ _ ops9 Q 11 _ ((a.put (some 38) (PG g 0)).put (some 39) (PG g 0)) w
  refine wpAny_take (i := 2) (fuel := 10) (oi := { dst := some 40, op := Op.nilCheck (Operand.tmp 39), type := 0, pos := "sha.go:54", after := #[{ on := 1, ground := Ground.data }], guard := none }) (v := PG g 0) rfl (by kernel_rfl) (by kernel_rfl) (by kernel_rfl) (fun c a w h => hQp c a _ _ w h) (Or.inl ⟨rfl, fun w => ?_⟩) ?_
  · have e : ((a.put (some 38) (PG g 0)).put (some 39) (PG g 0)).eval (.tmp 39) = PG g 0 := ev_same _ _ _ (by rw [put_size, hs]; decide)
    go_simp
  show wpAny _ _ ops9 Q 10 _ (((a.put (some 38) (PG g 0)).put (some 39) (PG g 0)).put (some 40) (PG g 0)) w
  refine wpAny_take (i := 3) (fuel := 9) (oi := { dst := some 41, op := Op.fieldAddr 69 (Operand.tmp 40) 0, type := 0, pos := "sha.go:54", after := #[{ on := 2, ground := Ground.data }], guard := none }) (v := PG g 0) rfl (by kernel_rfl) (by kernel_rfl) (by kernel_rfl) (fun c a w h => hQp c a _ _ w h) (Or.inl ⟨rfl, fun w => ?_⟩) ?_
  · have e : (((a.put (some 38) (PG g 0)).put (some 39) (PG g 0)).put (some 40) (PG g 0)).eval (.tmp 40) = PG g 0 := ev_same _ _ _ (by rw [put_size, put_size, hs]; decide)
    go_simp
  show wpAny _ _ ops9 Q 9 _ ((((a.put (some 38) (PG g 0)).put (some 39) (PG g 0)).put (some 40) (PG g 0)).put (some 41) (PG g 0)) w
  refine wpAny_take (i := 5) (fuel := 8) (oi := { dst := some 43, op := Op.move (Operand.tmp 0), type := 60, pos := "sha.go:54", after := #[], guard := none }) (v := PG g 0) rfl (by kernel_rfl) (by kernel_rfl) (by kernel_rfl) (fun c a w h => hQp c a _ _ w h) (Or.inl ⟨rfl, fun w => ?_⟩) ?_
  · have e : ((((a.put (some 38) (PG g 0)).put (some 39) (PG g 0)).put (some 40) (PG g 0)).put (some 41) (PG g 0)).eval (.tmp 0) = PG g 0 := (ev_ne _ _ _ _ (by decide)).trans ((ev_ne _ _ _ _ (by decide)).trans ((ev_ne _ _ _ _ (by decide)).trans ((ev_ne _ _ _ _ (by decide)).trans (h0))))
    exact congrArg (fun v => Result.ok (Next.value v) w) e
  show wpAny _ _ ops9 Q 8 _ (((((a.put (some 38) (PG g 0)).put (some 39) (PG g 0)).put (some 40) (PG g 0)).put (some 41) (PG g 0)).put (some 43) (PG g 0)) w
  refine wpAny_take (i := 6) (fuel := 7) (oi := { dst := some 44, op := Op.nilCheck (Operand.tmp 43), type := 0, pos := "sha.go:54", after := #[{ on := 5, ground := Ground.data }], guard := none }) (v := PG g 0) rfl (by kernel_rfl) (by kernel_rfl) (by kernel_rfl) (fun c a w h => hQp c a _ _ w h) (Or.inl ⟨rfl, fun w => ?_⟩) ?_
  · have e : (((((a.put (some 38) (PG g 0)).put (some 39) (PG g 0)).put (some 40) (PG g 0)).put (some 41) (PG g 0)).put (some 43) (PG g 0)).eval (.tmp 43) = PG g 0 := ev_same _ _ _ (by rw [put_size, put_size, put_size, put_size, hs]; decide)
    go_simp
  show wpAny _ _ ops9 Q 7 _ ((((((a.put (some 38) (PG g 0)).put (some 39) (PG g 0)).put (some 40) (PG g 0)).put (some 41) (PG g 0)).put (some 43) (PG g 0)).put (some 44) (PG g 0)) w
  refine wpAny_take (i := 7) (fuel := 6) (oi := { dst := some 45, op := Op.fieldAddr 69 (Operand.tmp 44) 1, type := 0, pos := "sha.go:54", after := #[{ on := 6, ground := Ground.data }], guard := none }) (v := PG g 8) rfl (by kernel_rfl) (by kernel_rfl) (by kernel_rfl) (fun c a w h => hQp c a _ _ w h) (Or.inl ⟨rfl, fun w => ?_⟩) ?_
  · have e : ((((((a.put (some 38) (PG g 0)).put (some 39) (PG g 0)).put (some 40) (PG g 0)).put (some 41) (PG g 0)).put (some 43) (PG g 0)).put (some 44) (PG g 0)).eval (.tmp 44) = PG g 0 := ev_same _ _ _ (by rw [put_size, put_size, put_size, put_size, put_size, hs]; decide)
    go_simp
  show wpAny _ _ ops9 Q 6 _ (((((((a.put (some 38) (PG g 0)).put (some 39) (PG g 0)).put (some 40) (PG g 0)).put (some 41) (PG g 0)).put (some 43) (PG g 0)).put (some 44) (PG g 0)).put (some 45) (PG g 8)) w
  have hs1 : (((((((a.put (some 38) (PG g 0)).put (some 39) (PG g 0)).put (some 40) (PG g 0)).put (some 41) (PG g 0)).put (some 43) (PG g 0)).put (some 44) (PG g 0)).put (some 45) (PG g 8)).tmps.size = 55 := by rw [put_size, put_size, put_size, put_size, put_size, put_size, put_size, hs]
  have e38 : (((((((a.put (some 38) (PG g 0)).put (some 39) (PG g 0)).put (some 40) (PG g 0)).put (some 41) (PG g 0)).put (some 43) (PG g 0)).put (some 44) (PG g 0)).put (some 45) (PG g 8)).eval (.tmp 38) = PG g 0 := (ev_ne _ _ _ _ (by decide)).trans ((ev_ne _ _ _ _ (by decide)).trans ((ev_ne _ _ _ _ (by decide)).trans ((ev_ne _ _ _ _ (by decide)).trans ((ev_ne _ _ _ _ (by decide)).trans ((ev_ne _ _ _ _ (by decide)).trans (ev_same _ _ _ (by rw [hs]; decide)))))))
  have e41 : (((((((a.put (some 38) (PG g 0)).put (some 39) (PG g 0)).put (some 40) (PG g 0)).put (some 41) (PG g 0)).put (some 43) (PG g 0)).put (some 44) (PG g 0)).put (some 45) (PG g 8)).eval (.tmp 41) = PG g 0 := (ev_ne _ _ _ _ (by decide)).trans ((ev_ne _ _ _ _ (by decide)).trans ((ev_ne _ _ _ _ (by decide)).trans (ev_same _ _ _ (by rw [put_size, put_size, put_size, hs]; decide))))
  have e45 : (((((((a.put (some 38) (PG g 0)).put (some 39) (PG g 0)).put (some 40) (PG g 0)).put (some 41) (PG g 0)).put (some 43) (PG g 0)).put (some 44) (PG g 0)).put (some 45) (PG g 8)).eval (.tmp 45) = PG g 8 := ev_same _ _ _ (by rw [put_size, put_size, put_size, put_size, put_size, put_size, hs]; decide)
  generalize hA : ((((((a.put (some 38) (PG g 0)).put (some 39) (PG g 0)).put (some 40) (PG g 0)).put (some 41) (PG g 0)).put (some 43) (PG g 0)).put (some 44) (PG g 0)).put (some 45) (PG g 8) = A at hs1 e38 e41 e45 ⊢
  have hs_A := hs1
  have eA_38 := e38
  have eA_41 := e41
  have eA_45 := e45
  clear hs1 e38 e41 e45
  refine wpAny_ready (rs := [4, 8]) (fuel := 5) (by kernel_rfl) (by decide) ?_
  refine AllReady.cons (o := { dst := some 42, op := Op.load 52 (Operand.tmp 41), type := 52, pos := "sha.go:54", after := #[{ on := 3, ground := Ground.data }], guard := none }) rfl (fun K hK => ?_) ?_
  · skip
    refine step_load_seg ?b1 52 (.tmp 41) ?b2 g 0 eA_41 69 (hcells h) (u32s h.st.list).toList _ hh.row Tryd.underlying52 ?b3 (sz_st h) (seg_st h) ?_
    case b1 => rfl
    case b2 => rfl
    case b3 => rfl
    refine hK _ _ ?_
    clear hK K
    change wpAny _ _ ops9 Q 5 _ (A.put (some 42) (.agg (u32s h.st.list))) w
    have hsB1 : (A.put (some 42) (.agg (u32s h.st.list))).tmps.size = 55 := by rw [put_size, hs_A]
    have eB1_42 := ev_same A 42 (.agg (u32s h.st.list)) (by rw [hs_A]; decide)
    have eB1_38 := (ev_ne A 42 38 (.agg (u32s h.st.list)) (by decide)).trans eA_38
    have eB1_41 := (ev_ne A 42 41 (.agg (u32s h.st.list)) (by decide)).trans eA_41
    have eB1_45 := (ev_ne A 42 45 (.agg (u32s h.st.list)) (by decide)).trans eA_45
    generalize hB1 : A.put (some 42) (.agg (u32s h.st.list)) = B1 at hsB1 eB1_38 eB1_41 eB1_45 eB1_42 ⊢
    have hs_B1 := hsB1
    refine wpAny_ready (rs := [8]) (fuel := 4) (by kernel_rfl) (by decide) ?_
    refine AllReady.cons (o := { dst := some 46, op := Op.load 67 (Operand.tmp 45), type := 67, pos := "sha.go:54", after := #[{ on := 7, ground := Ground.data }], guard := none }) rfl (fun K hK => ?_) AllReady.nil
    refine step_load_seg ?b1 67 (.tmp 45) ?b2 g 8 eB1_45 69 (hcells h) (u8s h.blk).toList _ hh.row Tryd.underlying67 ?b3 (sz_blk h hh.len) (seg_blk h hh.len) ?_
    case b1 => rfl
    case b2 => rfl
    case b3 => rfl
    refine hK _ _ ?_
    clear hK K
    change wpAny _ _ ops9 Q 4 _ (B1.put (some 46) (.agg (u8s h.blk))) w
    have hsB2 : (B1.put (some 46) (.agg (u8s h.blk))).tmps.size = 55 := by rw [put_size, hs_B1]
    have eB2_46 := ev_same B1 46 (.agg (u8s h.blk)) (by rw [hs_B1]; decide)
    have eB2_38 := (ev_ne B1 46 38 (.agg (u8s h.blk)) (by decide)).trans eB1_38
    have eB2_41 := (ev_ne B1 46 41 (.agg (u8s h.blk)) (by decide)).trans eB1_41
    have eB2_45 := (ev_ne B1 46 45 (.agg (u8s h.blk)) (by decide)).trans eB1_45
    have eB2_42 := (ev_ne B1 46 42 (.agg (u8s h.blk)) (by decide)).trans eB1_42
    generalize hB2 : B1.put (some 46) (.agg (u8s h.blk)) = B2 at hsB2 eB2_38 eB2_41 eB2_45 eB2_42 eB2_46 ⊢
    have hs_B2 := hsB2
    refine wpAny_ready (rs := [9]) (fuel := 3) (by kernel_rfl) (by decide) ?_
    refine AllReady.cons (o := { dst := some 47, op := Op.call { callee := Callee.value (Operand.func 37), args := #[Operand.tmp 42, Operand.tmp 46], argTypes := #[52, 67] }, type := 52, pos := "sha.go:54", after := #[{ on := 4, ground := Ground.data }, { on := 8, ground := Ground.data }], guard := none }) rfl (fun K hK => ?_) AllReady.nil
    refine step_call18 _ _ ?b1 ?b2 eB2_42 eB2_46 ?_
    case b1 => rfl
    case b2 => rfl
    refine (mixed_any h.st h.blk hh.len w ht).mono ?_
    rintro e w1 ⟨rfl, hb⟩
    refine hK _ _ ?_
    clear hK K
    have hr1 : Row w1 g (hcells h) 69 := hh.row.below hb hh.row.lt
    have hg1 : w.grownBy w1 (some g) := ⟨hb.os, hb.tape, hb.output, hb.size, fun k hk _ => hb.block k hk⟩
    change wpAny _ _ ops9 Q 3 _ (B2.put (some 47) (.agg (u32s (mixP h.st h.blk).list))) w1
    have hsB3 : (B2.put (some 47) (.agg (u32s (mixP h.st h.blk).list))).tmps.size = 55 := by rw [put_size, hs_B2]
    have eB3_47 := ev_same B2 47 (.agg (u32s (mixP h.st h.blk).list)) (by rw [hs_B2]; decide)
    have eB3_38 := (ev_ne B2 47 38 (.agg (u32s (mixP h.st h.blk).list)) (by decide)).trans eB2_38
    have eB3_41 := (ev_ne B2 47 41 (.agg (u32s (mixP h.st h.blk).list)) (by decide)).trans eB2_41
    have eB3_45 := (ev_ne B2 47 45 (.agg (u32s (mixP h.st h.blk).list)) (by decide)).trans eB2_45
    have eB3_42 := (ev_ne B2 47 42 (.agg (u32s (mixP h.st h.blk).list)) (by decide)).trans eB2_42
    have eB3_46 := (ev_ne B2 47 46 (.agg (u32s (mixP h.st h.blk).list)) (by decide)).trans eB2_46
    generalize hB3 : B2.put (some 47) (.agg (u32s (mixP h.st h.blk).list)) = B3 at hsB3 eB3_38 eB3_41 eB3_45 eB3_42 eB3_46 eB3_47 ⊢
    have hs_B3 := hsB3
    refine wpAny_take (i := 10) (fuel := 2) (oi := { dst := some 48, op := Op.nilCheck (Operand.tmp 38), type := 0, pos := "sha.go:54", after := #[{ on := 0, ground := Ground.data }, { on := 0, ground := Ground.phase }, { on := 1, ground := Ground.phase }, { on := 2, ground := Ground.phase }, { on := 3, ground := Ground.phase }, { on := 4, ground := Ground.phase }, { on := 5, ground := Ground.phase }, { on := 6, ground := Ground.phase }, { on := 7, ground := Ground.phase }, { on := 8, ground := Ground.phase }, { on := 9, ground := Ground.phase }], guard := none }) (v := PG g 0) rfl (by kernel_rfl) (by kernel_rfl) (by kernel_rfl) (fun c a w h => hQp c a _ _ w h) (Or.inl ⟨rfl, fun w => ?_⟩) ?_
    · exact run_nilCheck _ _ _ rfl g 0 eB3_38 w
    change wpAny _ _ ops9 Q 2 _ (B3.put (some 48) (PG g 0)) w1
    have hsB4 : (B3.put (some 48) (PG g 0)).tmps.size = 55 := by rw [put_size, hs_B3]
    have eB4_48 := ev_same B3 48 (PG g 0) (by rw [hs_B3]; decide)
    have eB4_38 := (ev_ne B3 48 38 (PG g 0) (by decide)).trans eB3_38
    have eB4_41 := (ev_ne B3 48 41 (PG g 0) (by decide)).trans eB3_41
    have eB4_45 := (ev_ne B3 48 45 (PG g 0) (by decide)).trans eB3_45
    have eB4_42 := (ev_ne B3 48 42 (PG g 0) (by decide)).trans eB3_42
    have eB4_46 := (ev_ne B3 48 46 (PG g 0) (by decide)).trans eB3_46
    have eB4_47 := (ev_ne B3 48 47 (PG g 0) (by decide)).trans eB3_47
    generalize hB4 : B3.put (some 48) (PG g 0) = B4 at hsB4 eB4_38 eB4_41 eB4_45 eB4_42 eB4_46 eB4_47 eB4_48 ⊢
    have hs_B4 := hsB4
    refine wpAny_take (i := 11) (fuel := 1) (oi := { dst := some 49, op := Op.fieldAddr 69 (Operand.tmp 48) 0, type := 0, pos := "sha.go:54", after := #[{ on := 10, ground := Ground.data }, { on := 0, ground := Ground.phase }, { on := 1, ground := Ground.phase }, { on := 2, ground := Ground.phase }, { on := 3, ground := Ground.phase }, { on := 4, ground := Ground.phase }, { on := 5, ground := Ground.phase }, { on := 6, ground := Ground.phase }, { on := 7, ground := Ground.phase }, { on := 8, ground := Ground.phase }, { on := 9, ground := Ground.phase }], guard := none }) (v := PG g 0) rfl (by kernel_rfl) (by kernel_rfl) (by kernel_rfl) (fun c a w h => hQp c a _ _ w h) (Or.inl ⟨rfl, fun w => ?_⟩) ?_
    · exact run_field0 _ _ _ rfl g eB4_48 w
    change wpAny _ _ ops9 Q 1 _ (B4.put (some 49) (PG g 0)) w1
    have hsB5 : (B4.put (some 49) (PG g 0)).tmps.size = 55 := by rw [put_size, hs_B4]
    have eB5_49 := ev_same B4 49 (PG g 0) (by rw [hs_B4]; decide)
    have eB5_38 := (ev_ne B4 49 38 (PG g 0) (by decide)).trans eB4_38
    have eB5_41 := (ev_ne B4 49 41 (PG g 0) (by decide)).trans eB4_41
    have eB5_45 := (ev_ne B4 49 45 (PG g 0) (by decide)).trans eB4_45
    have eB5_42 := (ev_ne B4 49 42 (PG g 0) (by decide)).trans eB4_42
    have eB5_46 := (ev_ne B4 49 46 (PG g 0) (by decide)).trans eB4_46
    have eB5_47 := (ev_ne B4 49 47 (PG g 0) (by decide)).trans eB4_47
    have eB5_48 := (ev_ne B4 49 48 (PG g 0) (by decide)).trans eB4_48
    generalize hB5 : B4.put (some 49) (PG g 0) = B5 at hsB5 eB5_38 eB5_41 eB5_45 eB5_42 eB5_46 eB5_47 eB5_48 eB5_49 ⊢
    have hs_B5 := hsB5
    refine wpAny_ready (rs := [12]) (fuel := 0) (by kernel_rfl) (by decide) ?_
    refine AllReady.cons (o := { dst := none, op := Op.store 52 (Operand.tmp 49) (Operand.tmp 47), type := 0, pos := "sha.go:54", after := #[{ on := 11, ground := Ground.data }, { on := 9, ground := Ground.data }, { on := 9, ground := Ground.chain }, { on := 0, ground := Ground.phase }, { on := 1, ground := Ground.phase }, { on := 2, ground := Ground.phase }, { on := 3, ground := Ground.phase }, { on := 4, ground := Ground.phase }, { on := 5, ground := Ground.phase }, { on := 6, ground := Ground.phase }, { on := 7, ground := Ground.phase }, { on := 8, ground := Ground.phase }, { on := 9, ground := Ground.phase }], guard := none }) rfl (fun K hK => ?_) AllReady.nil
    refine step_store_seg ?b1 52 (.tmp 49) (.tmp 47) ?b2 g 0 eB5_49 (u32s (mixP h.st h.blk).list) eB5_47 69 (hcells h) (hcells ⟨mixP h.st h.blk, h.blk, h.n⟩) hr1 (by rw [size41, u32s_size, list_len]) (by rw [hcells_size _ hh.len, u32s_size, list_len]; decide) (u32s_one _) (hcells_set_st h.st _ h.blk h.n) ?_
    case b1 => rfl
    case b2 => rfl
    intro w2 hr2 hg2
    refine hK _ _ ?_
    clear hK K
    refine wpAny_done (by kernel_rfl) ?_ _
    have hfin := h1 w2 ⟨hr2, hh.len⟩ (hg1.trans hg2)
    change Q .normal B5 w2
    rw [← hB5, ← hB4, ← hB3, ← hB2, ← hB1, ← hA]
    exact hfin
  refine AllReady.cons (o := { dst := some 46, op := Op.load 67 (Operand.tmp 45), type := 67, pos := "sha.go:54", after := #[{ on := 7, ground := Ground.data }], guard := none }) rfl (fun K hK => ?_) AllReady.nil
  · skip
    refine step_load_seg ?b1 67 (.tmp 45) ?b2 g 8 eA_45 69 (hcells h) (u8s h.blk).toList _ hh.row Tryd.underlying67 ?b3 (sz_blk h hh.len) (seg_blk h hh.len) ?_
    case b1 => rfl
    case b2 => rfl
    case b3 => rfl
    refine hK _ _ ?_
    clear hK K
    change wpAny _ _ ops9 Q 5 _ (A.put (some 46) (.agg (u8s h.blk))) w
    have hsB6 : (A.put (some 46) (.agg (u8s h.blk))).tmps.size = 55 := by rw [put_size, hs_A]
    have eB6_46 := ev_same A 46 (.agg (u8s h.blk)) (by rw [hs_A]; decide)
    have eB6_38 := (ev_ne A 46 38 (.agg (u8s h.blk)) (by decide)).trans eA_38
    have eB6_41 := (ev_ne A 46 41 (.agg (u8s h.blk)) (by decide)).trans eA_41
    have eB6_45 := (ev_ne A 46 45 (.agg (u8s h.blk)) (by decide)).trans eA_45
    generalize hB6 : A.put (some 46) (.agg (u8s h.blk)) = B6 at hsB6 eB6_38 eB6_41 eB6_45 eB6_46 ⊢
    have hs_B6 := hsB6
    refine wpAny_ready (rs := [4]) (fuel := 4) (by kernel_rfl) (by decide) ?_
    refine AllReady.cons (o := { dst := some 42, op := Op.load 52 (Operand.tmp 41), type := 52, pos := "sha.go:54", after := #[{ on := 3, ground := Ground.data }], guard := none }) rfl (fun K hK => ?_) AllReady.nil
    refine step_load_seg ?b1 52 (.tmp 41) ?b2 g 0 eB6_41 69 (hcells h) (u32s h.st.list).toList _ hh.row Tryd.underlying52 ?b3 (sz_st h) (seg_st h) ?_
    case b1 => rfl
    case b2 => rfl
    case b3 => rfl
    refine hK _ _ ?_
    clear hK K
    change wpAny _ _ ops9 Q 4 _ (B6.put (some 42) (.agg (u32s h.st.list))) w
    have hsB7 : (B6.put (some 42) (.agg (u32s h.st.list))).tmps.size = 55 := by rw [put_size, hs_B6]
    have eB7_42 := ev_same B6 42 (.agg (u32s h.st.list)) (by rw [hs_B6]; decide)
    have eB7_38 := (ev_ne B6 42 38 (.agg (u32s h.st.list)) (by decide)).trans eB6_38
    have eB7_41 := (ev_ne B6 42 41 (.agg (u32s h.st.list)) (by decide)).trans eB6_41
    have eB7_45 := (ev_ne B6 42 45 (.agg (u32s h.st.list)) (by decide)).trans eB6_45
    have eB7_46 := (ev_ne B6 42 46 (.agg (u32s h.st.list)) (by decide)).trans eB6_46
    generalize hB7 : B6.put (some 42) (.agg (u32s h.st.list)) = B7 at hsB7 eB7_38 eB7_41 eB7_45 eB7_46 eB7_42 ⊢
    have hs_B7 := hsB7
    refine wpAny_ready (rs := [9]) (fuel := 3) (by kernel_rfl) (by decide) ?_
    refine AllReady.cons (o := { dst := some 47, op := Op.call { callee := Callee.value (Operand.func 37), args := #[Operand.tmp 42, Operand.tmp 46], argTypes := #[52, 67] }, type := 52, pos := "sha.go:54", after := #[{ on := 4, ground := Ground.data }, { on := 8, ground := Ground.data }], guard := none }) rfl (fun K hK => ?_) AllReady.nil
    refine step_call18 _ _ ?b1 ?b2 eB7_42 eB7_46 ?_
    case b1 => rfl
    case b2 => rfl
    refine (mixed_any h.st h.blk hh.len w ht).mono ?_
    rintro e w1 ⟨rfl, hb⟩
    refine hK _ _ ?_
    clear hK K
    have hr1 : Row w1 g (hcells h) 69 := hh.row.below hb hh.row.lt
    have hg1 : w.grownBy w1 (some g) := ⟨hb.os, hb.tape, hb.output, hb.size, fun k hk _ => hb.block k hk⟩
    change wpAny _ _ ops9 Q 3 _ (B7.put (some 47) (.agg (u32s (mixP h.st h.blk).list))) w1
    have hsB8 : (B7.put (some 47) (.agg (u32s (mixP h.st h.blk).list))).tmps.size = 55 := by rw [put_size, hs_B7]
    have eB8_47 := ev_same B7 47 (.agg (u32s (mixP h.st h.blk).list)) (by rw [hs_B7]; decide)
    have eB8_38 := (ev_ne B7 47 38 (.agg (u32s (mixP h.st h.blk).list)) (by decide)).trans eB7_38
    have eB8_41 := (ev_ne B7 47 41 (.agg (u32s (mixP h.st h.blk).list)) (by decide)).trans eB7_41
    have eB8_45 := (ev_ne B7 47 45 (.agg (u32s (mixP h.st h.blk).list)) (by decide)).trans eB7_45
    have eB8_46 := (ev_ne B7 47 46 (.agg (u32s (mixP h.st h.blk).list)) (by decide)).trans eB7_46
    have eB8_42 := (ev_ne B7 47 42 (.agg (u32s (mixP h.st h.blk).list)) (by decide)).trans eB7_42
    generalize hB8 : B7.put (some 47) (.agg (u32s (mixP h.st h.blk).list)) = B8 at hsB8 eB8_38 eB8_41 eB8_45 eB8_46 eB8_42 eB8_47 ⊢
    have hs_B8 := hsB8
    refine wpAny_take (i := 10) (fuel := 2) (oi := { dst := some 48, op := Op.nilCheck (Operand.tmp 38), type := 0, pos := "sha.go:54", after := #[{ on := 0, ground := Ground.data }, { on := 0, ground := Ground.phase }, { on := 1, ground := Ground.phase }, { on := 2, ground := Ground.phase }, { on := 3, ground := Ground.phase }, { on := 4, ground := Ground.phase }, { on := 5, ground := Ground.phase }, { on := 6, ground := Ground.phase }, { on := 7, ground := Ground.phase }, { on := 8, ground := Ground.phase }, { on := 9, ground := Ground.phase }], guard := none }) (v := PG g 0) rfl (by kernel_rfl) (by kernel_rfl) (by kernel_rfl) (fun c a w h => hQp c a _ _ w h) (Or.inl ⟨rfl, fun w => ?_⟩) ?_
    · exact run_nilCheck _ _ _ rfl g 0 eB8_38 w
    change wpAny _ _ ops9 Q 2 _ (B8.put (some 48) (PG g 0)) w1
    have hsB9 : (B8.put (some 48) (PG g 0)).tmps.size = 55 := by rw [put_size, hs_B8]
    have eB9_48 := ev_same B8 48 (PG g 0) (by rw [hs_B8]; decide)
    have eB9_38 := (ev_ne B8 48 38 (PG g 0) (by decide)).trans eB8_38
    have eB9_41 := (ev_ne B8 48 41 (PG g 0) (by decide)).trans eB8_41
    have eB9_45 := (ev_ne B8 48 45 (PG g 0) (by decide)).trans eB8_45
    have eB9_46 := (ev_ne B8 48 46 (PG g 0) (by decide)).trans eB8_46
    have eB9_42 := (ev_ne B8 48 42 (PG g 0) (by decide)).trans eB8_42
    have eB9_47 := (ev_ne B8 48 47 (PG g 0) (by decide)).trans eB8_47
    generalize hB9 : B8.put (some 48) (PG g 0) = B9 at hsB9 eB9_38 eB9_41 eB9_45 eB9_46 eB9_42 eB9_47 eB9_48 ⊢
    have hs_B9 := hsB9
    refine wpAny_take (i := 11) (fuel := 1) (oi := { dst := some 49, op := Op.fieldAddr 69 (Operand.tmp 48) 0, type := 0, pos := "sha.go:54", after := #[{ on := 10, ground := Ground.data }, { on := 0, ground := Ground.phase }, { on := 1, ground := Ground.phase }, { on := 2, ground := Ground.phase }, { on := 3, ground := Ground.phase }, { on := 4, ground := Ground.phase }, { on := 5, ground := Ground.phase }, { on := 6, ground := Ground.phase }, { on := 7, ground := Ground.phase }, { on := 8, ground := Ground.phase }, { on := 9, ground := Ground.phase }], guard := none }) (v := PG g 0) rfl (by kernel_rfl) (by kernel_rfl) (by kernel_rfl) (fun c a w h => hQp c a _ _ w h) (Or.inl ⟨rfl, fun w => ?_⟩) ?_
    · exact run_field0 _ _ _ rfl g eB9_48 w
    change wpAny _ _ ops9 Q 1 _ (B9.put (some 49) (PG g 0)) w1
    have hsB10 : (B9.put (some 49) (PG g 0)).tmps.size = 55 := by rw [put_size, hs_B9]
    have eB10_49 := ev_same B9 49 (PG g 0) (by rw [hs_B9]; decide)
    have eB10_38 := (ev_ne B9 49 38 (PG g 0) (by decide)).trans eB9_38
    have eB10_41 := (ev_ne B9 49 41 (PG g 0) (by decide)).trans eB9_41
    have eB10_45 := (ev_ne B9 49 45 (PG g 0) (by decide)).trans eB9_45
    have eB10_46 := (ev_ne B9 49 46 (PG g 0) (by decide)).trans eB9_46
    have eB10_42 := (ev_ne B9 49 42 (PG g 0) (by decide)).trans eB9_42
    have eB10_47 := (ev_ne B9 49 47 (PG g 0) (by decide)).trans eB9_47
    have eB10_48 := (ev_ne B9 49 48 (PG g 0) (by decide)).trans eB9_48
    generalize hB10 : B9.put (some 49) (PG g 0) = B10 at hsB10 eB10_38 eB10_41 eB10_45 eB10_46 eB10_42 eB10_47 eB10_48 eB10_49 ⊢
    have hs_B10 := hsB10
    refine wpAny_ready (rs := [12]) (fuel := 0) (by kernel_rfl) (by decide) ?_
    refine AllReady.cons (o := { dst := none, op := Op.store 52 (Operand.tmp 49) (Operand.tmp 47), type := 0, pos := "sha.go:54", after := #[{ on := 11, ground := Ground.data }, { on := 9, ground := Ground.data }, { on := 9, ground := Ground.chain }, { on := 0, ground := Ground.phase }, { on := 1, ground := Ground.phase }, { on := 2, ground := Ground.phase }, { on := 3, ground := Ground.phase }, { on := 4, ground := Ground.phase }, { on := 5, ground := Ground.phase }, { on := 6, ground := Ground.phase }, { on := 7, ground := Ground.phase }, { on := 8, ground := Ground.phase }, { on := 9, ground := Ground.phase }], guard := none }) rfl (fun K hK => ?_) AllReady.nil
    refine step_store_seg ?b1 52 (.tmp 49) (.tmp 47) ?b2 g 0 eB10_49 (u32s (mixP h.st h.blk).list) eB10_47 69 (hcells h) (hcells ⟨mixP h.st h.blk, h.blk, h.n⟩) hr1 (by rw [size41, u32s_size, list_len]) (by rw [hcells_size _ hh.len, u32s_size, list_len]; decide) (u32s_one _) (hcells_set_st h.st _ h.blk h.n) ?_
    case b1 => rfl
    case b2 => rfl
    intro w2 hr2 hg2
    refine hK _ _ ?_
    clear hK K
    refine wpAny_done (by kernel_rfl) ?_ _
    have hfin := h1 w2 ⟨hr2, hh.len⟩ (hg1.trans hg2)
    change Q .normal B10 w2
    rw [← hB10, ← hB9, ← hB8, ← hB7, ← hB6, ← hA, put_comm _ 46 42 _ _ (by decide)]
    exact hfin
end Go.Proofs.YtbklcelnnmhgkaaDoor
