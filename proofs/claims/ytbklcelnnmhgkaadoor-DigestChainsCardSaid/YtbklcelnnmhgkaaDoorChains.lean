/- Contract of the law DigestChains. -/
import Derived.Test.YtbklcelnnmhgkaaDoorStp
namespace Go.Proofs.YtbklcelnnmhgkaaDoor
open Go.RowKit

theorem run_call21 (ρ : Operand → Value) (o : Oper) (x : Operand) (v : Value) (y : Operand) (u : Value) (ho : o.op = .call { callee := .value (.func 21), args := #[x, y], argTypes := #[9, 9] }) (hf : ρ (.func 21) = .func (.func 21) #[] #[]) (e : ρ x = v) (e2 : ρ y = u) (w : World) : (execOp ρ o).run Tryd.prog w = .ok (.enter 21 #[v, u]) w := by
  unfold execOp
  simp only [ho]
  go_simp
theorem run_call22 (ρ : Operand → Value) (o : Oper) (x : Operand) (v : Value) (y : Operand) (u : Value) (ho : o.op = .call { callee := .value (.func 22), args := #[x, y], argTypes := #[9, 9] }) (hf : ρ (.func 22) = .func (.func 22) #[] #[]) (e : ρ x = v) (e2 : ρ y = u) (w : World) : (execOp ρ o).run Tryd.prog w = .ok (.enter 22 #[v, u]) w := by
  unfold execOp
  simp only [ho]
  go_simp

/-- The operations of the law's last statement. -/
def ops6 : Array Oper := #[{ dst := some 22, op := Op.move (Operand.tmp 0), type := 9, pos := "law.go:80", after := #[], guard := none }, { dst := some 23, op := Op.move (Operand.tmp 1), type := 9, pos := "law.go:80", after := #[], guard := none }, { dst := some 24, op := Op.call { callee := Callee.value (Operand.func 21), args := #[Operand.tmp 22, Operand.tmp 23], argTypes := #[9, 9] }, type := 9, pos := "law.go:80", after := #[{ on := 0, ground := Ground.data }, { on := 1, ground := Ground.data }], guard := none }, { dst := some 25, op := Op.move (Operand.tmp 0), type := 9, pos := "law.go:80", after := #[], guard := none }, { dst := some 26, op := Op.move (Operand.tmp 1), type := 9, pos := "law.go:80", after := #[], guard := none }, { dst := some 27, op := Op.call { callee := Callee.value (Operand.func 22), args := #[Operand.tmp 25, Operand.tmp 26], argTypes := #[9, 9] }, type := 9, pos := "law.go:80", after := #[{ on := 3, ground := Ground.data }, { on := 4, ground := Ground.data }, { on := 2, ground := Ground.chain }], guard := none }, { dst := some 28, op := Op.binOp BinOp.eql 9 (Operand.tmp 24) (Operand.tmp 27) 9, type := 4, pos := "law.go:80", after := #[{ on := 2, ground := Ground.data }, { on := 5, ground := Ground.data }], guard := none }, { dst := some 29, op := Op.move (Operand.tmp 28), type := 4, pos := "law.go:80", after := #[{ on := 6, ground := Ground.data }, { on := 5, ground := Ground.chain }], guard := none }, { dst := some 30, op := Op.move (Operand.tmp 0), type := 9, pos := "law.go:80", after := #[{ on := 7, ground := Ground.guard }], guard := some (7, true) }, { dst := some 31, op := Op.move (Operand.tmp 1), type := 9, pos := "law.go:80", after := #[{ on := 7, ground := Ground.guard }], guard := some (7, true) }, { dst := some 32, op := Op.call { callee := Callee.value (Operand.func 21), args := #[Operand.tmp 30, Operand.tmp 31], argTypes := #[9, 9] }, type := 9, pos := "law.go:80", after := #[{ on := 8, ground := Ground.data }, { on := 9, ground := Ground.data }, { on := 7, ground := Ground.chain }, { on := 7, ground := Ground.guard }], guard := some (7, true) }, { dst := some 33, op := Op.load 23 (Operand.tmp 5), type := 23, pos := "law.go:80", after := #[{ on := 7, ground := Ground.guard }], guard := some (7, true) }, { dst := some 34, op := Op.call { callee := Callee.value (Operand.func 10), args := #[Operand.tmp 33], argTypes := #[24] }, type := 9, pos := "law.go:80", after := #[{ on := 11, ground := Ground.data }, { on := 10, ground := Ground.chain }, { on := 7, ground := Ground.guard }], guard := some (7, true) }, { dst := some 35, op := Op.binOp BinOp.eql 9 (Operand.tmp 32) (Operand.tmp 34) 9, type := 4, pos := "law.go:80", after := #[{ on := 10, ground := Ground.data }, { on := 12, ground := Ground.data }, { on := 7, ground := Ground.guard }], guard := some (7, true) }, { dst := some 36, op := Op.pick (Operand.tmp 29) (Operand.tmp 35) (Operand.const (Value.bool false)), type := 4, pos := "law.go:80", after := #[{ on := 7, ground := Ground.data }, { on := 13, ground := Ground.data }], guard := none }, { dst := some 4, op := Op.assign (Operand.tmp 36), type := 4, pos := "law.go:80", after := #[{ on := 14, ground := Ground.data }, { on := 12, ground := Ground.chain }, { on := 0, ground := Ground.phase }, { on := 1, ground := Ground.phase }, { on := 2, ground := Ground.phase }, { on := 3, ground := Ground.phase }, { on := 4, ground := Ground.phase }, { on := 5, ground := Ground.phase }, { on := 6, ground := Ground.phase }, { on := 7, ground := Ground.phase }, { on := 8, ground := Ground.phase }, { on := 9, ground := Ground.phase }, { on := 10, ground := Ground.phase }, { on := 11, ground := Ground.phase }, { on := 12, ground := Ground.phase }, { on := 13, ground := Ground.phase }, { on := 14, ground := Ground.phase }], guard := none }]

set_option maxHeartbeats 1000000 in
theorem region6 (a : Act) (w : World) (Q : Exit → Act → World → Prop) (g : Nat) (L : List UInt8) (sa sb : ByteArray) (hL : ofP (sa.data.toList ++ 32 :: sb.data.toList) = L) (hs : a.tmps.size = 37) (h0 : a.eval (.tmp 0) = .string sa) (h1 : a.eval (.tmp 1) = .string sb) (h5 : a.eval (.tmp 5) = PG g 0)
    (hr : Row w g (u8s L) 23) (ht : Tabs w) (ha : sa.size ≤ 200) (hb : sb.size ≤ 200)
    (hQp : ∀ c a (i : Nat) v w, Q (.panic c) (a.put (some i) v) w → Q (.panic c) a w)
    (hq : ∀ a' w', a'.tmps.size = 37 → a'.defers = a.defers → a'.eval (.tmp 4) = .bool true → Below w.heap.size w w' → Q .normal a' w') :
    (Code.region 6 ops6 true).wp Tryd.prog Q a w := by
  refine wp_region_any (by kernel_rfl) ?_
  change wpAny _ _ _ _ _ _ _ (World.drew _)
  have hr := hr.drew
  have ht : Tabs w.drew := ⟨ht.k, ht.s, ht.size⟩
  have hq : ∀ a' w', a'.tmps.size = 37 → a'.defers = a.defers → a'.eval (.tmp 4) = .bool true → Below w.drew.heap.size w.drew w' → Q .normal a' w' := fun a' w' x1 x2 x3 hy => hq a' w' x1 x2 x3 ⟨hy.os, hy.tape, hy.output, hy.size, hy.block⟩
  generalize w.drew = w at hr ht hq ⊢
  have hLL : L.length = 32 := by rw [← hL]; rfl
  obtain ⟨N, hN⟩ : ∃ N, nameP L = N := ⟨_, rfl⟩
  show wpAny _ _ ops6 Q 16 (Array.replicate 16 false) a w
  refine wpAny_take (i := 0) (fuel := 15) (oi := { dst := some 22, op := Op.move (Operand.tmp 0), type := 9, pos := "law.go:80", after := #[], guard := none }) (v := .string sa) rfl (by kernel_rfl) (by kernel_rfl) (by kernel_rfl) (fun c a w h => hQp c a _ _ w h) (Or.inl ⟨rfl, fun w => ?_⟩) ?_
  · exact congrArg (fun v => Result.ok (Next.value v) w) h0
  change wpAny _ _ ops6 Q 15 _ (a.put (some 22) (.string sa)) w
  have hsBc1 : (a.put (some 22) (.string sa)).tmps.size = 37 := by rw [put_size, hs]
  have hdBc1 : (a.put (some 22) (.string sa)).defers = a.defers := rfl
  have eBc1_22 := ev_same a 22 (.string sa) (by rw [hs]; decide)
  have eBc1_0 := (ev_ne a 22 0 (.string sa) (by decide)).trans h0
  have eBc1_1 := (ev_ne a 22 1 (.string sa) (by decide)).trans h1
  have eBc1_5 := (ev_ne a 22 5 (.string sa) (by decide)).trans h5
  generalize a.put (some 22) (.string sa) = Bc1 at hsBc1 hdBc1 eBc1_22 eBc1_0 eBc1_1 eBc1_5 ⊢
  refine wpAny_take (i := 1) (fuel := 14) (oi := { dst := some 23, op := Op.move (Operand.tmp 1), type := 9, pos := "law.go:80", after := #[], guard := none }) (v := .string sb) rfl (by kernel_rfl) (by kernel_rfl) (by kernel_rfl) (fun c a w h => hQp c a _ _ w h) (Or.inl ⟨rfl, fun w => ?_⟩) ?_
  · exact congrArg (fun v => Result.ok (Next.value v) w) eBc1_1
  change wpAny _ _ ops6 Q 14 _ (Bc1.put (some 23) (.string sb)) w
  have hsBc2 : (Bc1.put (some 23) (.string sb)).tmps.size = 37 := by rw [put_size, hsBc1]
  have hdBc2 : (Bc1.put (some 23) (.string sb)).defers = a.defers := hdBc1
  have eBc2_23 := ev_same Bc1 23 (.string sb) (by rw [hsBc1]; decide)
  have eBc2_22 := (ev_ne Bc1 23 22 (.string sb) (by decide)).trans eBc1_22
  have eBc2_0 := (ev_ne Bc1 23 0 (.string sb) (by decide)).trans eBc1_0
  have eBc2_1 := (ev_ne Bc1 23 1 (.string sb) (by decide)).trans eBc1_1
  have eBc2_5 := (ev_ne Bc1 23 5 (.string sb) (by decide)).trans eBc1_5
  generalize Bc1.put (some 23) (.string sb) = Bc2 at hsBc2 hdBc2 eBc2_23 eBc2_22 eBc2_0 eBc2_1 eBc2_5 ⊢
  clear eBc1_22 eBc1_0 eBc1_1 eBc1_5 hsBc1 hdBc1
  refine wpAny_take (i := 3) (fuel := 13) (oi := { dst := some 25, op := Op.move (Operand.tmp 0), type := 9, pos := "law.go:80", after := #[], guard := none }) (v := .string sa) rfl (by kernel_rfl) (by kernel_rfl) (by kernel_rfl) (fun c a w h => hQp c a _ _ w h) (Or.inl ⟨rfl, fun w => ?_⟩) ?_
  · exact congrArg (fun v => Result.ok (Next.value v) w) eBc2_0
  change wpAny _ _ ops6 Q 13 _ (Bc2.put (some 25) (.string sa)) w
  have hsBc3 : (Bc2.put (some 25) (.string sa)).tmps.size = 37 := by rw [put_size, hsBc2]
  have hdBc3 : (Bc2.put (some 25) (.string sa)).defers = a.defers := hdBc2
  have eBc3_25 := ev_same Bc2 25 (.string sa) (by rw [hsBc2]; decide)
  have eBc3_23 := (ev_ne Bc2 25 23 (.string sa) (by decide)).trans eBc2_23
  have eBc3_22 := (ev_ne Bc2 25 22 (.string sa) (by decide)).trans eBc2_22
  have eBc3_0 := (ev_ne Bc2 25 0 (.string sa) (by decide)).trans eBc2_0
  have eBc3_1 := (ev_ne Bc2 25 1 (.string sa) (by decide)).trans eBc2_1
  have eBc3_5 := (ev_ne Bc2 25 5 (.string sa) (by decide)).trans eBc2_5
  generalize Bc2.put (some 25) (.string sa) = Bc3 at hsBc3 hdBc3 eBc3_25 eBc3_23 eBc3_22 eBc3_0 eBc3_1 eBc3_5 ⊢
  clear eBc2_23 eBc2_22 eBc2_0 eBc2_1 eBc2_5 hsBc2 hdBc2
  refine wpAny_take (i := 4) (fuel := 12) (oi := { dst := some 26, op := Op.move (Operand.tmp 1), type := 9, pos := "law.go:80", after := #[], guard := none }) (v := .string sb) rfl (by kernel_rfl) (by kernel_rfl) (by kernel_rfl) (fun c a w h => hQp c a _ _ w h) (Or.inl ⟨rfl, fun w => ?_⟩) ?_
  · exact congrArg (fun v => Result.ok (Next.value v) w) eBc3_1
  change wpAny _ _ ops6 Q 12 _ (Bc3.put (some 26) (.string sb)) w
  have hsBc4 : (Bc3.put (some 26) (.string sb)).tmps.size = 37 := by rw [put_size, hsBc3]
  have hdBc4 : (Bc3.put (some 26) (.string sb)).defers = a.defers := hdBc3
  have eBc4_26 := ev_same Bc3 26 (.string sb) (by rw [hsBc3]; decide)
  have eBc4_25 := (ev_ne Bc3 26 25 (.string sb) (by decide)).trans eBc3_25
  have eBc4_23 := (ev_ne Bc3 26 23 (.string sb) (by decide)).trans eBc3_23
  have eBc4_22 := (ev_ne Bc3 26 22 (.string sb) (by decide)).trans eBc3_22
  have eBc4_0 := (ev_ne Bc3 26 0 (.string sb) (by decide)).trans eBc3_0
  have eBc4_1 := (ev_ne Bc3 26 1 (.string sb) (by decide)).trans eBc3_1
  have eBc4_5 := (ev_ne Bc3 26 5 (.string sb) (by decide)).trans eBc3_5
  generalize Bc3.put (some 26) (.string sb) = Bc4 at hsBc4 hdBc4 eBc4_26 eBc4_25 eBc4_23 eBc4_22 eBc4_0 eBc4_1 eBc4_5 ⊢
  clear eBc3_25 eBc3_23 eBc3_22 eBc3_0 eBc3_1 eBc3_5 hsBc3 hdBc3
  refine wpAny_ready (rs := [2]) (fuel := 11) (by kernel_rfl) (by decide) ?_
  refine AllReady.cons (o := { dst := some 24, op := Op.call { callee := Callee.value (Operand.func 21), args := #[Operand.tmp 22, Operand.tmp 23], argTypes := #[9, 9] }, type := 9, pos := "law.go:80", after := #[{ on := 0, ground := Ground.data }, { on := 1, ground := Ground.data }], guard := none }) rfl (fun K hK => ?_) AllReady.nil
  refine step_call1 rfl 21 _ (run_call21 _ _ _ _ _ _ rfl rfl eBc4_22 eBc4_23) ?_
  refine (chain_any sa sb w ht ha hb).mono ?_
  rintro e w1 ⟨rfl, hbw1⟩
  rw [hL, hN]
  have r1 := hr.below hbw1 hr.lt
  have t1 := ht.below hbw1 ht.size
  refine hK _ _ ?_
  clear hK K
  change wpAny _ _ ops6 Q 11 _ (Bc4.put (some 24) (.string N)) w1
  have hsBc5 : (Bc4.put (some 24) (.string N)).tmps.size = 37 := by rw [put_size, hsBc4]
  have hdBc5 : (Bc4.put (some 24) (.string N)).defers = a.defers := hdBc4
  have eBc5_24 := ev_same Bc4 24 (.string N) (by rw [hsBc4]; decide)
  have eBc5_26 := (ev_ne Bc4 24 26 (.string N) (by decide)).trans eBc4_26
  have eBc5_25 := (ev_ne Bc4 24 25 (.string N) (by decide)).trans eBc4_25
  have eBc5_23 := (ev_ne Bc4 24 23 (.string N) (by decide)).trans eBc4_23
  have eBc5_22 := (ev_ne Bc4 24 22 (.string N) (by decide)).trans eBc4_22
  have eBc5_0 := (ev_ne Bc4 24 0 (.string N) (by decide)).trans eBc4_0
  have eBc5_1 := (ev_ne Bc4 24 1 (.string N) (by decide)).trans eBc4_1
  have eBc5_5 := (ev_ne Bc4 24 5 (.string N) (by decide)).trans eBc4_5
  generalize Bc4.put (some 24) (.string N) = Bc5 at hsBc5 hdBc5 eBc5_24 eBc5_26 eBc5_25 eBc5_23 eBc5_22 eBc5_0 eBc5_1 eBc5_5 ⊢
  clear eBc4_26 eBc4_25 eBc4_23 eBc4_22 eBc4_0 eBc4_1 eBc4_5 hsBc4 hdBc4
  refine wpAny_ready (rs := [5]) (fuel := 10) (by kernel_rfl) (by decide) ?_
  refine AllReady.cons (o := { dst := some 27, op := Op.call { callee := Callee.value (Operand.func 22), args := #[Operand.tmp 25, Operand.tmp 26], argTypes := #[9, 9] }, type := 9, pos := "law.go:80", after := #[{ on := 3, ground := Ground.data }, { on := 4, ground := Ground.data }, { on := 2, ground := Ground.chain }], guard := none }) rfl (fun K hK => ?_) AllReady.nil
  refine step_call1 rfl 22 _ (run_call22 _ _ _ _ _ _ rfl rfl eBc5_25 eBc5_26) ?_
  refine (rchain_any sa sb w1 ha hb).mono ?_
  rintro e w2 ⟨rfl, hbw2⟩
  rw [hL, hN]
  have r2 := r1.below hbw2 r1.lt
  have t2 := t1.below hbw2 t1.size
  have b2 := hbw1.trans (hbw2.mono hbw1.size)
  refine hK _ _ ?_
  clear hK K
  change wpAny _ _ ops6 Q 10 _ (Bc5.put (some 27) (.string N)) w2
  have hsBc6 : (Bc5.put (some 27) (.string N)).tmps.size = 37 := by rw [put_size, hsBc5]
  have hdBc6 : (Bc5.put (some 27) (.string N)).defers = a.defers := hdBc5
  have eBc6_27 := ev_same Bc5 27 (.string N) (by rw [hsBc5]; decide)
  have eBc6_24 := (ev_ne Bc5 27 24 (.string N) (by decide)).trans eBc5_24
  have eBc6_26 := (ev_ne Bc5 27 26 (.string N) (by decide)).trans eBc5_26
  have eBc6_25 := (ev_ne Bc5 27 25 (.string N) (by decide)).trans eBc5_25
  have eBc6_23 := (ev_ne Bc5 27 23 (.string N) (by decide)).trans eBc5_23
  have eBc6_22 := (ev_ne Bc5 27 22 (.string N) (by decide)).trans eBc5_22
  have eBc6_0 := (ev_ne Bc5 27 0 (.string N) (by decide)).trans eBc5_0
  have eBc6_1 := (ev_ne Bc5 27 1 (.string N) (by decide)).trans eBc5_1
  have eBc6_5 := (ev_ne Bc5 27 5 (.string N) (by decide)).trans eBc5_5
  generalize Bc5.put (some 27) (.string N) = Bc6 at hsBc6 hdBc6 eBc6_27 eBc6_24 eBc6_26 eBc6_25 eBc6_23 eBc6_22 eBc6_0 eBc6_1 eBc6_5 ⊢
  clear eBc5_24 eBc5_26 eBc5_25 eBc5_23 eBc5_22 eBc5_0 eBc5_1 eBc5_5 hsBc5 hdBc5
  refine wpAny_take (i := 6) (fuel := 9) (oi := { dst := some 28, op := Op.binOp BinOp.eql 9 (Operand.tmp 24) (Operand.tmp 27) 9, type := 4, pos := "law.go:80", after := #[{ on := 2, ground := Ground.data }, { on := 5, ground := Ground.data }], guard := none }) (v := .bool true) rfl (by kernel_rfl) (by kernel_rfl) (by kernel_rfl) (fun c a w h => hQp c a _ _ w h) (Or.inl ⟨rfl, fun w => ?_⟩) ?_
  · have e1 := eBc6_24
    have e2 := eBc6_27
    exact run_eql _ _ _ _ rfl N e1 e2 w
  change wpAny _ _ ops6 Q 9 _ (Bc6.put (some 28) (.bool true)) w2
  have hsBc7 : (Bc6.put (some 28) (.bool true)).tmps.size = 37 := by rw [put_size, hsBc6]
  have hdBc7 : (Bc6.put (some 28) (.bool true)).defers = a.defers := hdBc6
  have eBc7_28 := ev_same Bc6 28 (.bool true) (by rw [hsBc6]; decide)
  have eBc7_27 := (ev_ne Bc6 28 27 (.bool true) (by decide)).trans eBc6_27
  have eBc7_24 := (ev_ne Bc6 28 24 (.bool true) (by decide)).trans eBc6_24
  have eBc7_26 := (ev_ne Bc6 28 26 (.bool true) (by decide)).trans eBc6_26
  have eBc7_25 := (ev_ne Bc6 28 25 (.bool true) (by decide)).trans eBc6_25
  have eBc7_23 := (ev_ne Bc6 28 23 (.bool true) (by decide)).trans eBc6_23
  have eBc7_22 := (ev_ne Bc6 28 22 (.bool true) (by decide)).trans eBc6_22
  have eBc7_0 := (ev_ne Bc6 28 0 (.bool true) (by decide)).trans eBc6_0
  have eBc7_1 := (ev_ne Bc6 28 1 (.bool true) (by decide)).trans eBc6_1
  have eBc7_5 := (ev_ne Bc6 28 5 (.bool true) (by decide)).trans eBc6_5
  generalize Bc6.put (some 28) (.bool true) = Bc7 at hsBc7 hdBc7 eBc7_28 eBc7_27 eBc7_24 eBc7_26 eBc7_25 eBc7_23 eBc7_22 eBc7_0 eBc7_1 eBc7_5 ⊢
  clear eBc6_27 eBc6_24 eBc6_26 eBc6_25 eBc6_23 eBc6_22 eBc6_0 eBc6_1 eBc6_5 hsBc6 hdBc6
  refine wpAny_take (i := 7) (fuel := 8) (oi := { dst := some 29, op := Op.move (Operand.tmp 28), type := 4, pos := "law.go:80", after := #[{ on := 6, ground := Ground.data }, { on := 5, ground := Ground.chain }], guard := none }) (v := .bool true) rfl (by kernel_rfl) (by kernel_rfl) (by kernel_rfl) (fun c a w h => hQp c a _ _ w h) (Or.inl ⟨rfl, fun w => ?_⟩) ?_
  · exact congrArg (fun v => Result.ok (Next.value v) w) eBc7_28
  change wpAny _ _ ops6 Q 8 _ (Bc7.put (some 29) (.bool true)) w2
  have hsBc8 : (Bc7.put (some 29) (.bool true)).tmps.size = 37 := by rw [put_size, hsBc7]
  have hdBc8 : (Bc7.put (some 29) (.bool true)).defers = a.defers := hdBc7
  have eBc8_29 := ev_same Bc7 29 (.bool true) (by rw [hsBc7]; decide)
  have eBc8_28 := (ev_ne Bc7 29 28 (.bool true) (by decide)).trans eBc7_28
  have eBc8_27 := (ev_ne Bc7 29 27 (.bool true) (by decide)).trans eBc7_27
  have eBc8_24 := (ev_ne Bc7 29 24 (.bool true) (by decide)).trans eBc7_24
  have eBc8_26 := (ev_ne Bc7 29 26 (.bool true) (by decide)).trans eBc7_26
  have eBc8_25 := (ev_ne Bc7 29 25 (.bool true) (by decide)).trans eBc7_25
  have eBc8_23 := (ev_ne Bc7 29 23 (.bool true) (by decide)).trans eBc7_23
  have eBc8_22 := (ev_ne Bc7 29 22 (.bool true) (by decide)).trans eBc7_22
  have eBc8_0 := (ev_ne Bc7 29 0 (.bool true) (by decide)).trans eBc7_0
  have eBc8_1 := (ev_ne Bc7 29 1 (.bool true) (by decide)).trans eBc7_1
  have eBc8_5 := (ev_ne Bc7 29 5 (.bool true) (by decide)).trans eBc7_5
  generalize Bc7.put (some 29) (.bool true) = Bc8 at hsBc8 hdBc8 eBc8_29 eBc8_28 eBc8_27 eBc8_24 eBc8_26 eBc8_25 eBc8_23 eBc8_22 eBc8_0 eBc8_1 eBc8_5 ⊢
  clear eBc7_28 eBc7_27 eBc7_24 eBc7_26 eBc7_25 eBc7_23 eBc7_22 eBc7_0 eBc7_1 eBc7_5 hsBc7 hdBc7
  refine wpAny_take (i := 8) (fuel := 7) (oi := { dst := some 30, op := Op.move (Operand.tmp 0), type := 9, pos := "law.go:80", after := #[{ on := 7, ground := Ground.guard }], guard := some (7, true) }) (v := .string sa) rfl (by kernel_rfl) (by kernel_rfl) (by kernel_rfl) (fun c a w h => hQp c a _ _ w h) (Or.inl ⟨(wanted_at (d := 29) rfl rfl eBc8_29 (by rw [hsBc8]; decide)), fun w => ?_⟩) ?_
  · exact congrArg (fun v => Result.ok (Next.value v) w) eBc8_0
  change wpAny _ _ ops6 Q 7 _ (Bc8.put (some 30) (.string sa)) w2
  have hsBc9 : (Bc8.put (some 30) (.string sa)).tmps.size = 37 := by rw [put_size, hsBc8]
  have hdBc9 : (Bc8.put (some 30) (.string sa)).defers = a.defers := hdBc8
  have eBc9_30 := ev_same Bc8 30 (.string sa) (by rw [hsBc8]; decide)
  have eBc9_29 := (ev_ne Bc8 30 29 (.string sa) (by decide)).trans eBc8_29
  have eBc9_28 := (ev_ne Bc8 30 28 (.string sa) (by decide)).trans eBc8_28
  have eBc9_27 := (ev_ne Bc8 30 27 (.string sa) (by decide)).trans eBc8_27
  have eBc9_24 := (ev_ne Bc8 30 24 (.string sa) (by decide)).trans eBc8_24
  have eBc9_26 := (ev_ne Bc8 30 26 (.string sa) (by decide)).trans eBc8_26
  have eBc9_25 := (ev_ne Bc8 30 25 (.string sa) (by decide)).trans eBc8_25
  have eBc9_23 := (ev_ne Bc8 30 23 (.string sa) (by decide)).trans eBc8_23
  have eBc9_22 := (ev_ne Bc8 30 22 (.string sa) (by decide)).trans eBc8_22
  have eBc9_0 := (ev_ne Bc8 30 0 (.string sa) (by decide)).trans eBc8_0
  have eBc9_1 := (ev_ne Bc8 30 1 (.string sa) (by decide)).trans eBc8_1
  have eBc9_5 := (ev_ne Bc8 30 5 (.string sa) (by decide)).trans eBc8_5
  generalize Bc8.put (some 30) (.string sa) = Bc9 at hsBc9 hdBc9 eBc9_30 eBc9_29 eBc9_28 eBc9_27 eBc9_24 eBc9_26 eBc9_25 eBc9_23 eBc9_22 eBc9_0 eBc9_1 eBc9_5 ⊢
  clear eBc8_29 eBc8_28 eBc8_27 eBc8_24 eBc8_26 eBc8_25 eBc8_23 eBc8_22 eBc8_0 eBc8_1 eBc8_5 hsBc8 hdBc8
  refine wpAny_take (i := 9) (fuel := 6) (oi := { dst := some 31, op := Op.move (Operand.tmp 1), type := 9, pos := "law.go:80", after := #[{ on := 7, ground := Ground.guard }], guard := some (7, true) }) (v := .string sb) rfl (by kernel_rfl) (by kernel_rfl) (by kernel_rfl) (fun c a w h => hQp c a _ _ w h) (Or.inl ⟨(wanted_at (d := 29) rfl rfl eBc9_29 (by rw [hsBc9]; decide)), fun w => ?_⟩) ?_
  · exact congrArg (fun v => Result.ok (Next.value v) w) eBc9_1
  change wpAny _ _ ops6 Q 6 _ (Bc9.put (some 31) (.string sb)) w2
  have hsBc10 : (Bc9.put (some 31) (.string sb)).tmps.size = 37 := by rw [put_size, hsBc9]
  have hdBc10 : (Bc9.put (some 31) (.string sb)).defers = a.defers := hdBc9
  have eBc10_31 := ev_same Bc9 31 (.string sb) (by rw [hsBc9]; decide)
  have eBc10_30 := (ev_ne Bc9 31 30 (.string sb) (by decide)).trans eBc9_30
  have eBc10_29 := (ev_ne Bc9 31 29 (.string sb) (by decide)).trans eBc9_29
  have eBc10_28 := (ev_ne Bc9 31 28 (.string sb) (by decide)).trans eBc9_28
  have eBc10_27 := (ev_ne Bc9 31 27 (.string sb) (by decide)).trans eBc9_27
  have eBc10_24 := (ev_ne Bc9 31 24 (.string sb) (by decide)).trans eBc9_24
  have eBc10_26 := (ev_ne Bc9 31 26 (.string sb) (by decide)).trans eBc9_26
  have eBc10_25 := (ev_ne Bc9 31 25 (.string sb) (by decide)).trans eBc9_25
  have eBc10_23 := (ev_ne Bc9 31 23 (.string sb) (by decide)).trans eBc9_23
  have eBc10_22 := (ev_ne Bc9 31 22 (.string sb) (by decide)).trans eBc9_22
  have eBc10_0 := (ev_ne Bc9 31 0 (.string sb) (by decide)).trans eBc9_0
  have eBc10_1 := (ev_ne Bc9 31 1 (.string sb) (by decide)).trans eBc9_1
  have eBc10_5 := (ev_ne Bc9 31 5 (.string sb) (by decide)).trans eBc9_5
  generalize Bc9.put (some 31) (.string sb) = Bc10 at hsBc10 hdBc10 eBc10_31 eBc10_30 eBc10_29 eBc10_28 eBc10_27 eBc10_24 eBc10_26 eBc10_25 eBc10_23 eBc10_22 eBc10_0 eBc10_1 eBc10_5 ⊢
  clear eBc9_30 eBc9_29 eBc9_28 eBc9_27 eBc9_24 eBc9_26 eBc9_25 eBc9_23 eBc9_22 eBc9_0 eBc9_1 eBc9_5 hsBc9 hdBc9
  refine wpAny_ready (rs := [10, 11]) (fuel := 5) (by kernel_rfl) (by decide) ?_
  refine AllReady.cons (o := { dst := some 32, op := Op.call { callee := Callee.value (Operand.func 21), args := #[Operand.tmp 30, Operand.tmp 31], argTypes := #[9, 9] }, type := 9, pos := "law.go:80", after := #[{ on := 8, ground := Ground.data }, { on := 9, ground := Ground.data }, { on := 7, ground := Ground.chain }, { on := 7, ground := Ground.guard }], guard := some (7, true) }) rfl (fun K hK => ?_) ?_
  · skip
    refine step_call1 (wanted_at (d := 29) rfl rfl eBc10_29 (by rw [hsBc10]; decide)) 21 _ (run_call21 _ _ _ _ _ _ rfl rfl eBc10_30 eBc10_31) ?_
    refine (chain_any sa sb w2 t2 ha hb).mono ?_
    rintro e w3 ⟨rfl, hbw3⟩
    rw [hL, hN]
    have r3 := r2.below hbw3 r2.lt
    have b3 := b2.trans (hbw3.mono b2.size)
    refine hK _ _ ?_
    clear hK K
    change wpAny _ _ ops6 Q 5 _ (Bc10.put (some 32) (.string N)) w3
    have hsBd11 : (Bc10.put (some 32) (.string N)).tmps.size = 37 := by rw [put_size, hsBc10]
    have hdBd11 : (Bc10.put (some 32) (.string N)).defers = a.defers := hdBc10
    have eBd11_32 := ev_same Bc10 32 (.string N) (by rw [hsBc10]; decide)
    have eBd11_31 := (ev_ne Bc10 32 31 (.string N) (by decide)).trans eBc10_31
    have eBd11_30 := (ev_ne Bc10 32 30 (.string N) (by decide)).trans eBc10_30
    have eBd11_29 := (ev_ne Bc10 32 29 (.string N) (by decide)).trans eBc10_29
    have eBd11_28 := (ev_ne Bc10 32 28 (.string N) (by decide)).trans eBc10_28
    have eBd11_27 := (ev_ne Bc10 32 27 (.string N) (by decide)).trans eBc10_27
    have eBd11_24 := (ev_ne Bc10 32 24 (.string N) (by decide)).trans eBc10_24
    have eBd11_26 := (ev_ne Bc10 32 26 (.string N) (by decide)).trans eBc10_26
    have eBd11_25 := (ev_ne Bc10 32 25 (.string N) (by decide)).trans eBc10_25
    have eBd11_23 := (ev_ne Bc10 32 23 (.string N) (by decide)).trans eBc10_23
    have eBd11_22 := (ev_ne Bc10 32 22 (.string N) (by decide)).trans eBc10_22
    have eBd11_0 := (ev_ne Bc10 32 0 (.string N) (by decide)).trans eBc10_0
    have eBd11_1 := (ev_ne Bc10 32 1 (.string N) (by decide)).trans eBc10_1
    have eBd11_5 := (ev_ne Bc10 32 5 (.string N) (by decide)).trans eBc10_5
    generalize Bc10.put (some 32) (.string N) = Bd11 at hsBd11 hdBd11 eBd11_32 eBd11_31 eBd11_30 eBd11_29 eBd11_28 eBd11_27 eBd11_24 eBd11_26 eBd11_25 eBd11_23 eBd11_22 eBd11_0 eBd11_1 eBd11_5 ⊢
    clear eBc10_31 eBc10_30 eBc10_29 eBc10_28 eBc10_27 eBc10_24 eBc10_26 eBc10_25 eBc10_23 eBc10_22 eBc10_0 eBc10_1 eBc10_5 hsBc10 hdBc10
    refine wpAny_ready (rs := [11]) (fuel := 4) (by kernel_rfl) (by decide) ?_
    refine AllReady.cons (o := { dst := some 33, op := Op.load 23 (Operand.tmp 5), type := 23, pos := "law.go:80", after := #[{ on := 7, ground := Ground.guard }], guard := some (7, true) }) rfl (fun K hK => ?_) AllReady.nil
    refine step_load_g (wanted_at (d := 29) rfl rfl eBd11_29 (by rw [hsBd11]; decide)) 23 _ rfl g eBd11_5 _ (u8s L) _ r3 Tryd.underlying23 rfl (by rw [size24, u8s_size, hLL]) ?_
    refine hK _ _ ?_
    clear hK K
    change wpAny _ _ ops6 Q 4 _ (Bd11.put (some 33) (.agg (u8s L))) w3
    have hsBd12 : (Bd11.put (some 33) (.agg (u8s L))).tmps.size = 37 := by rw [put_size, hsBd11]
    have hdBd12 : (Bd11.put (some 33) (.agg (u8s L))).defers = a.defers := hdBd11
    have eBd12_33 := ev_same Bd11 33 (.agg (u8s L)) (by rw [hsBd11]; decide)
    have eBd12_32 := (ev_ne Bd11 33 32 (.agg (u8s L)) (by decide)).trans eBd11_32
    have eBd12_31 := (ev_ne Bd11 33 31 (.agg (u8s L)) (by decide)).trans eBd11_31
    have eBd12_30 := (ev_ne Bd11 33 30 (.agg (u8s L)) (by decide)).trans eBd11_30
    have eBd12_29 := (ev_ne Bd11 33 29 (.agg (u8s L)) (by decide)).trans eBd11_29
    have eBd12_28 := (ev_ne Bd11 33 28 (.agg (u8s L)) (by decide)).trans eBd11_28
    have eBd12_27 := (ev_ne Bd11 33 27 (.agg (u8s L)) (by decide)).trans eBd11_27
    have eBd12_24 := (ev_ne Bd11 33 24 (.agg (u8s L)) (by decide)).trans eBd11_24
    have eBd12_26 := (ev_ne Bd11 33 26 (.agg (u8s L)) (by decide)).trans eBd11_26
    have eBd12_25 := (ev_ne Bd11 33 25 (.agg (u8s L)) (by decide)).trans eBd11_25
    have eBd12_23 := (ev_ne Bd11 33 23 (.agg (u8s L)) (by decide)).trans eBd11_23
    have eBd12_22 := (ev_ne Bd11 33 22 (.agg (u8s L)) (by decide)).trans eBd11_22
    have eBd12_0 := (ev_ne Bd11 33 0 (.agg (u8s L)) (by decide)).trans eBd11_0
    have eBd12_1 := (ev_ne Bd11 33 1 (.agg (u8s L)) (by decide)).trans eBd11_1
    have eBd12_5 := (ev_ne Bd11 33 5 (.agg (u8s L)) (by decide)).trans eBd11_5
    generalize Bd11.put (some 33) (.agg (u8s L)) = Bd12 at hsBd12 hdBd12 eBd12_33 eBd12_32 eBd12_31 eBd12_30 eBd12_29 eBd12_28 eBd12_27 eBd12_24 eBd12_26 eBd12_25 eBd12_23 eBd12_22 eBd12_0 eBd12_1 eBd12_5 ⊢
    clear eBd11_32 eBd11_31 eBd11_30 eBd11_29 eBd11_28 eBd11_27 eBd11_24 eBd11_26 eBd11_25 eBd11_23 eBd11_22 eBd11_0 eBd11_1 eBd11_5 hsBd11 hdBd11
    refine wpAny_ready (rs := [12]) (fuel := 3) (by kernel_rfl) (by decide) ?_
    refine AllReady.cons (o := { dst := some 34, op := Op.call { callee := Callee.value (Operand.func 10), args := #[Operand.tmp 33], argTypes := #[24] }, type := 9, pos := "law.go:80", after := #[{ on := 11, ground := Ground.data }, { on := 10, ground := Ground.chain }, { on := 7, ground := Ground.guard }], guard := some (7, true) }) rfl (fun K hK => ?_) AllReady.nil
    refine step_call1 (wanted_at (d := 29) rfl rfl eBd12_29 (by rw [hsBd12]; decide)) 10 _ (run_call10 _ _ _ _ rfl rfl eBd12_33) ?_
    refine (name_any L hLL w3).mono ?_
    rintro e w5 ⟨rfl, hbw5⟩
    rw [hN]
    have b5 := b3.trans (hbw5.mono b3.size)
    refine hK _ _ ?_
    clear hK K
    change wpAny _ _ ops6 Q 3 _ (Bd12.put (some 34) (.string N)) w5
    have hsBd13 : (Bd12.put (some 34) (.string N)).tmps.size = 37 := by rw [put_size, hsBd12]
    have hdBd13 : (Bd12.put (some 34) (.string N)).defers = a.defers := hdBd12
    have eBd13_34 := ev_same Bd12 34 (.string N) (by rw [hsBd12]; decide)
    have eBd13_33 := (ev_ne Bd12 34 33 (.string N) (by decide)).trans eBd12_33
    have eBd13_32 := (ev_ne Bd12 34 32 (.string N) (by decide)).trans eBd12_32
    have eBd13_31 := (ev_ne Bd12 34 31 (.string N) (by decide)).trans eBd12_31
    have eBd13_30 := (ev_ne Bd12 34 30 (.string N) (by decide)).trans eBd12_30
    have eBd13_29 := (ev_ne Bd12 34 29 (.string N) (by decide)).trans eBd12_29
    have eBd13_28 := (ev_ne Bd12 34 28 (.string N) (by decide)).trans eBd12_28
    have eBd13_27 := (ev_ne Bd12 34 27 (.string N) (by decide)).trans eBd12_27
    have eBd13_24 := (ev_ne Bd12 34 24 (.string N) (by decide)).trans eBd12_24
    have eBd13_26 := (ev_ne Bd12 34 26 (.string N) (by decide)).trans eBd12_26
    have eBd13_25 := (ev_ne Bd12 34 25 (.string N) (by decide)).trans eBd12_25
    have eBd13_23 := (ev_ne Bd12 34 23 (.string N) (by decide)).trans eBd12_23
    have eBd13_22 := (ev_ne Bd12 34 22 (.string N) (by decide)).trans eBd12_22
    have eBd13_0 := (ev_ne Bd12 34 0 (.string N) (by decide)).trans eBd12_0
    have eBd13_1 := (ev_ne Bd12 34 1 (.string N) (by decide)).trans eBd12_1
    have eBd13_5 := (ev_ne Bd12 34 5 (.string N) (by decide)).trans eBd12_5
    generalize Bd12.put (some 34) (.string N) = Bd13 at hsBd13 hdBd13 eBd13_34 eBd13_33 eBd13_32 eBd13_31 eBd13_30 eBd13_29 eBd13_28 eBd13_27 eBd13_24 eBd13_26 eBd13_25 eBd13_23 eBd13_22 eBd13_0 eBd13_1 eBd13_5 ⊢
    clear eBd12_33 eBd12_32 eBd12_31 eBd12_30 eBd12_29 eBd12_28 eBd12_27 eBd12_24 eBd12_26 eBd12_25 eBd12_23 eBd12_22 eBd12_0 eBd12_1 eBd12_5 hsBd12 hdBd12
    refine wpAny_take (i := 13) (fuel := 2) (oi := { dst := some 35, op := Op.binOp BinOp.eql 9 (Operand.tmp 32) (Operand.tmp 34) 9, type := 4, pos := "law.go:80", after := #[{ on := 10, ground := Ground.data }, { on := 12, ground := Ground.data }, { on := 7, ground := Ground.guard }], guard := some (7, true) }) (v := .bool true) rfl (by kernel_rfl) (by kernel_rfl) (by kernel_rfl) (fun c a w h => hQp c a _ _ w h) (Or.inl ⟨(wanted_at (d := 29) rfl rfl eBd13_29 (by rw [hsBd13]; decide)), fun w => ?_⟩) ?_
    · have e1 := eBd13_32
      have e2 := eBd13_34
      exact run_eql _ _ _ _ rfl N e1 e2 w
    change wpAny _ _ ops6 Q 2 _ (Bd13.put (some 35) (.bool true)) w5
    have hsBd14 : (Bd13.put (some 35) (.bool true)).tmps.size = 37 := by rw [put_size, hsBd13]
    have hdBd14 : (Bd13.put (some 35) (.bool true)).defers = a.defers := hdBd13
    have eBd14_35 := ev_same Bd13 35 (.bool true) (by rw [hsBd13]; decide)
    have eBd14_34 := (ev_ne Bd13 35 34 (.bool true) (by decide)).trans eBd13_34
    have eBd14_33 := (ev_ne Bd13 35 33 (.bool true) (by decide)).trans eBd13_33
    have eBd14_32 := (ev_ne Bd13 35 32 (.bool true) (by decide)).trans eBd13_32
    have eBd14_31 := (ev_ne Bd13 35 31 (.bool true) (by decide)).trans eBd13_31
    have eBd14_30 := (ev_ne Bd13 35 30 (.bool true) (by decide)).trans eBd13_30
    have eBd14_29 := (ev_ne Bd13 35 29 (.bool true) (by decide)).trans eBd13_29
    have eBd14_28 := (ev_ne Bd13 35 28 (.bool true) (by decide)).trans eBd13_28
    have eBd14_27 := (ev_ne Bd13 35 27 (.bool true) (by decide)).trans eBd13_27
    have eBd14_24 := (ev_ne Bd13 35 24 (.bool true) (by decide)).trans eBd13_24
    have eBd14_26 := (ev_ne Bd13 35 26 (.bool true) (by decide)).trans eBd13_26
    have eBd14_25 := (ev_ne Bd13 35 25 (.bool true) (by decide)).trans eBd13_25
    have eBd14_23 := (ev_ne Bd13 35 23 (.bool true) (by decide)).trans eBd13_23
    have eBd14_22 := (ev_ne Bd13 35 22 (.bool true) (by decide)).trans eBd13_22
    have eBd14_0 := (ev_ne Bd13 35 0 (.bool true) (by decide)).trans eBd13_0
    have eBd14_1 := (ev_ne Bd13 35 1 (.bool true) (by decide)).trans eBd13_1
    have eBd14_5 := (ev_ne Bd13 35 5 (.bool true) (by decide)).trans eBd13_5
    generalize Bd13.put (some 35) (.bool true) = Bd14 at hsBd14 hdBd14 eBd14_35 eBd14_34 eBd14_33 eBd14_32 eBd14_31 eBd14_30 eBd14_29 eBd14_28 eBd14_27 eBd14_24 eBd14_26 eBd14_25 eBd14_23 eBd14_22 eBd14_0 eBd14_1 eBd14_5 ⊢
    clear eBd13_34 eBd13_33 eBd13_32 eBd13_31 eBd13_30 eBd13_29 eBd13_28 eBd13_27 eBd13_24 eBd13_26 eBd13_25 eBd13_23 eBd13_22 eBd13_0 eBd13_1 eBd13_5 hsBd13 hdBd13
    refine wpAny_take (i := 14) (fuel := 1) (oi := { dst := some 36, op := Op.pick (Operand.tmp 29) (Operand.tmp 35) (Operand.const (Value.bool false)), type := 4, pos := "law.go:80", after := #[{ on := 7, ground := Ground.data }, { on := 13, ground := Ground.data }], guard := none }) (v := .bool true) rfl (by kernel_rfl) (by kernel_rfl) (by kernel_rfl) (fun c a w h => hQp c a _ _ w h) (Or.inl ⟨rfl, fun w => ?_⟩) ?_
    · have e1 := eBd14_29
      have e2 := eBd14_35
      exact run_pick _ _ _ _ _ rfl e1 e2 w
    change wpAny _ _ ops6 Q 1 _ (Bd14.put (some 36) (.bool true)) w5
    have hsBd15 : (Bd14.put (some 36) (.bool true)).tmps.size = 37 := by rw [put_size, hsBd14]
    have hdBd15 : (Bd14.put (some 36) (.bool true)).defers = a.defers := hdBd14
    have eBd15_36 := ev_same Bd14 36 (.bool true) (by rw [hsBd14]; decide)
    have eBd15_35 := (ev_ne Bd14 36 35 (.bool true) (by decide)).trans eBd14_35
    have eBd15_34 := (ev_ne Bd14 36 34 (.bool true) (by decide)).trans eBd14_34
    have eBd15_33 := (ev_ne Bd14 36 33 (.bool true) (by decide)).trans eBd14_33
    have eBd15_32 := (ev_ne Bd14 36 32 (.bool true) (by decide)).trans eBd14_32
    have eBd15_31 := (ev_ne Bd14 36 31 (.bool true) (by decide)).trans eBd14_31
    have eBd15_30 := (ev_ne Bd14 36 30 (.bool true) (by decide)).trans eBd14_30
    have eBd15_29 := (ev_ne Bd14 36 29 (.bool true) (by decide)).trans eBd14_29
    have eBd15_28 := (ev_ne Bd14 36 28 (.bool true) (by decide)).trans eBd14_28
    have eBd15_27 := (ev_ne Bd14 36 27 (.bool true) (by decide)).trans eBd14_27
    have eBd15_24 := (ev_ne Bd14 36 24 (.bool true) (by decide)).trans eBd14_24
    have eBd15_26 := (ev_ne Bd14 36 26 (.bool true) (by decide)).trans eBd14_26
    have eBd15_25 := (ev_ne Bd14 36 25 (.bool true) (by decide)).trans eBd14_25
    have eBd15_23 := (ev_ne Bd14 36 23 (.bool true) (by decide)).trans eBd14_23
    have eBd15_22 := (ev_ne Bd14 36 22 (.bool true) (by decide)).trans eBd14_22
    have eBd15_0 := (ev_ne Bd14 36 0 (.bool true) (by decide)).trans eBd14_0
    have eBd15_1 := (ev_ne Bd14 36 1 (.bool true) (by decide)).trans eBd14_1
    have eBd15_5 := (ev_ne Bd14 36 5 (.bool true) (by decide)).trans eBd14_5
    generalize Bd14.put (some 36) (.bool true) = Bd15 at hsBd15 hdBd15 eBd15_36 eBd15_35 eBd15_34 eBd15_33 eBd15_32 eBd15_31 eBd15_30 eBd15_29 eBd15_28 eBd15_27 eBd15_24 eBd15_26 eBd15_25 eBd15_23 eBd15_22 eBd15_0 eBd15_1 eBd15_5 ⊢
    clear eBd14_35 eBd14_34 eBd14_33 eBd14_32 eBd14_31 eBd14_30 eBd14_29 eBd14_28 eBd14_27 eBd14_24 eBd14_26 eBd14_25 eBd14_23 eBd14_22 eBd14_0 eBd14_1 eBd14_5 hsBd14 hdBd14
    refine wpAny_take (i := 15) (fuel := 0) (oi := { dst := some 4, op := Op.assign (Operand.tmp 36), type := 4, pos := "law.go:80", after := #[{ on := 14, ground := Ground.data }, { on := 12, ground := Ground.chain }, { on := 0, ground := Ground.phase }, { on := 1, ground := Ground.phase }, { on := 2, ground := Ground.phase }, { on := 3, ground := Ground.phase }, { on := 4, ground := Ground.phase }, { on := 5, ground := Ground.phase }, { on := 6, ground := Ground.phase }, { on := 7, ground := Ground.phase }, { on := 8, ground := Ground.phase }, { on := 9, ground := Ground.phase }, { on := 10, ground := Ground.phase }, { on := 11, ground := Ground.phase }, { on := 12, ground := Ground.phase }, { on := 13, ground := Ground.phase }, { on := 14, ground := Ground.phase }], guard := none }) (v := .bool true) rfl (by kernel_rfl) (by kernel_rfl) (by kernel_rfl) (fun c a w h => hQp c a _ _ w h) (Or.inl ⟨rfl, fun w => ?_⟩) ?_
    · exact congrArg (fun v => Result.ok (Next.value v) w) eBd15_36
    change wpAny _ _ ops6 Q 0 _ (Bd15.put (some 4) (.bool true)) w5
    have hsBd16 : (Bd15.put (some 4) (.bool true)).tmps.size = 37 := by rw [put_size, hsBd15]
    have hdBd16 : (Bd15.put (some 4) (.bool true)).defers = a.defers := hdBd15
    have eBd16_4 := ev_same Bd15 4 (.bool true) (by rw [hsBd15]; decide)
    have eBd16_36 := (ev_ne Bd15 4 36 (.bool true) (by decide)).trans eBd15_36
    have eBd16_35 := (ev_ne Bd15 4 35 (.bool true) (by decide)).trans eBd15_35
    have eBd16_34 := (ev_ne Bd15 4 34 (.bool true) (by decide)).trans eBd15_34
    have eBd16_33 := (ev_ne Bd15 4 33 (.bool true) (by decide)).trans eBd15_33
    have eBd16_32 := (ev_ne Bd15 4 32 (.bool true) (by decide)).trans eBd15_32
    have eBd16_31 := (ev_ne Bd15 4 31 (.bool true) (by decide)).trans eBd15_31
    have eBd16_30 := (ev_ne Bd15 4 30 (.bool true) (by decide)).trans eBd15_30
    have eBd16_29 := (ev_ne Bd15 4 29 (.bool true) (by decide)).trans eBd15_29
    have eBd16_28 := (ev_ne Bd15 4 28 (.bool true) (by decide)).trans eBd15_28
    have eBd16_27 := (ev_ne Bd15 4 27 (.bool true) (by decide)).trans eBd15_27
    have eBd16_24 := (ev_ne Bd15 4 24 (.bool true) (by decide)).trans eBd15_24
    have eBd16_26 := (ev_ne Bd15 4 26 (.bool true) (by decide)).trans eBd15_26
    have eBd16_25 := (ev_ne Bd15 4 25 (.bool true) (by decide)).trans eBd15_25
    have eBd16_23 := (ev_ne Bd15 4 23 (.bool true) (by decide)).trans eBd15_23
    have eBd16_22 := (ev_ne Bd15 4 22 (.bool true) (by decide)).trans eBd15_22
    have eBd16_0 := (ev_ne Bd15 4 0 (.bool true) (by decide)).trans eBd15_0
    have eBd16_1 := (ev_ne Bd15 4 1 (.bool true) (by decide)).trans eBd15_1
    have eBd16_5 := (ev_ne Bd15 4 5 (.bool true) (by decide)).trans eBd15_5
    generalize Bd15.put (some 4) (.bool true) = Bd16 at hsBd16 hdBd16 eBd16_4 eBd16_36 eBd16_35 eBd16_34 eBd16_33 eBd16_32 eBd16_31 eBd16_30 eBd16_29 eBd16_28 eBd16_27 eBd16_24 eBd16_26 eBd16_25 eBd16_23 eBd16_22 eBd16_0 eBd16_1 eBd16_5 ⊢
    clear eBd15_36 eBd15_35 eBd15_34 eBd15_33 eBd15_32 eBd15_31 eBd15_30 eBd15_29 eBd15_28 eBd15_27 eBd15_24 eBd15_26 eBd15_25 eBd15_23 eBd15_22 eBd15_0 eBd15_1 eBd15_5 hsBd15 hdBd15
    refine wpAny_done (by kernel_rfl) ?_ _
    exact hq _ _ hsBd16 hdBd16 eBd16_4 b5
  refine AllReady.cons (o := { dst := some 33, op := Op.load 23 (Operand.tmp 5), type := 23, pos := "law.go:80", after := #[{ on := 7, ground := Ground.guard }], guard := some (7, true) }) rfl (fun K hK => ?_) AllReady.nil
  refine step_load_g (wanted_at (d := 29) rfl rfl eBc10_29 (by rw [hsBc10]; decide)) 23 _ rfl g eBc10_5 _ (u8s L) _ r2 Tryd.underlying23 rfl (by rw [size24, u8s_size, hLL]) ?_
  refine hK _ _ ?_
  clear hK K
  change wpAny _ _ ops6 Q 5 _ (Bc10.put (some 33) (.agg (u8s L))) w2
  have hsBf11 : (Bc10.put (some 33) (.agg (u8s L))).tmps.size = 37 := by rw [put_size, hsBc10]
  have hdBf11 : (Bc10.put (some 33) (.agg (u8s L))).defers = a.defers := hdBc10
  have eBf11_33 := ev_same Bc10 33 (.agg (u8s L)) (by rw [hsBc10]; decide)
  have eBf11_31 := (ev_ne Bc10 33 31 (.agg (u8s L)) (by decide)).trans eBc10_31
  have eBf11_30 := (ev_ne Bc10 33 30 (.agg (u8s L)) (by decide)).trans eBc10_30
  have eBf11_29 := (ev_ne Bc10 33 29 (.agg (u8s L)) (by decide)).trans eBc10_29
  have eBf11_28 := (ev_ne Bc10 33 28 (.agg (u8s L)) (by decide)).trans eBc10_28
  have eBf11_27 := (ev_ne Bc10 33 27 (.agg (u8s L)) (by decide)).trans eBc10_27
  have eBf11_24 := (ev_ne Bc10 33 24 (.agg (u8s L)) (by decide)).trans eBc10_24
  have eBf11_26 := (ev_ne Bc10 33 26 (.agg (u8s L)) (by decide)).trans eBc10_26
  have eBf11_25 := (ev_ne Bc10 33 25 (.agg (u8s L)) (by decide)).trans eBc10_25
  have eBf11_23 := (ev_ne Bc10 33 23 (.agg (u8s L)) (by decide)).trans eBc10_23
  have eBf11_22 := (ev_ne Bc10 33 22 (.agg (u8s L)) (by decide)).trans eBc10_22
  have eBf11_0 := (ev_ne Bc10 33 0 (.agg (u8s L)) (by decide)).trans eBc10_0
  have eBf11_1 := (ev_ne Bc10 33 1 (.agg (u8s L)) (by decide)).trans eBc10_1
  have eBf11_5 := (ev_ne Bc10 33 5 (.agg (u8s L)) (by decide)).trans eBc10_5
  generalize Bc10.put (some 33) (.agg (u8s L)) = Bf11 at hsBf11 hdBf11 eBf11_33 eBf11_31 eBf11_30 eBf11_29 eBf11_28 eBf11_27 eBf11_24 eBf11_26 eBf11_25 eBf11_23 eBf11_22 eBf11_0 eBf11_1 eBf11_5 ⊢
  clear eBc10_31 eBc10_30 eBc10_29 eBc10_28 eBc10_27 eBc10_24 eBc10_26 eBc10_25 eBc10_23 eBc10_22 eBc10_0 eBc10_1 eBc10_5 hsBc10 hdBc10
  refine wpAny_ready (rs := [10]) (fuel := 4) (by kernel_rfl) (by decide) ?_
  refine AllReady.cons (o := { dst := some 32, op := Op.call { callee := Callee.value (Operand.func 21), args := #[Operand.tmp 30, Operand.tmp 31], argTypes := #[9, 9] }, type := 9, pos := "law.go:80", after := #[{ on := 8, ground := Ground.data }, { on := 9, ground := Ground.data }, { on := 7, ground := Ground.chain }, { on := 7, ground := Ground.guard }], guard := some (7, true) }) rfl (fun K hK => ?_) AllReady.nil
  refine step_call1 (wanted_at (d := 29) rfl rfl eBf11_29 (by rw [hsBf11]; decide)) 21 _ (run_call21 _ _ _ _ _ _ rfl rfl eBf11_30 eBf11_31) ?_
  refine (chain_any sa sb w2 t2 ha hb).mono ?_
  rintro e w3 ⟨rfl, hbw3⟩
  rw [hL, hN]
  have r3 := r2.below hbw3 r2.lt
  have b3 := b2.trans (hbw3.mono b2.size)
  refine hK _ _ ?_
  clear hK K
  change wpAny _ _ ops6 Q 4 _ (Bf11.put (some 32) (.string N)) w3
  have hsBf12 : (Bf11.put (some 32) (.string N)).tmps.size = 37 := by rw [put_size, hsBf11]
  have hdBf12 : (Bf11.put (some 32) (.string N)).defers = a.defers := hdBf11
  have eBf12_32 := ev_same Bf11 32 (.string N) (by rw [hsBf11]; decide)
  have eBf12_33 := (ev_ne Bf11 32 33 (.string N) (by decide)).trans eBf11_33
  have eBf12_31 := (ev_ne Bf11 32 31 (.string N) (by decide)).trans eBf11_31
  have eBf12_30 := (ev_ne Bf11 32 30 (.string N) (by decide)).trans eBf11_30
  have eBf12_29 := (ev_ne Bf11 32 29 (.string N) (by decide)).trans eBf11_29
  have eBf12_28 := (ev_ne Bf11 32 28 (.string N) (by decide)).trans eBf11_28
  have eBf12_27 := (ev_ne Bf11 32 27 (.string N) (by decide)).trans eBf11_27
  have eBf12_24 := (ev_ne Bf11 32 24 (.string N) (by decide)).trans eBf11_24
  have eBf12_26 := (ev_ne Bf11 32 26 (.string N) (by decide)).trans eBf11_26
  have eBf12_25 := (ev_ne Bf11 32 25 (.string N) (by decide)).trans eBf11_25
  have eBf12_23 := (ev_ne Bf11 32 23 (.string N) (by decide)).trans eBf11_23
  have eBf12_22 := (ev_ne Bf11 32 22 (.string N) (by decide)).trans eBf11_22
  have eBf12_0 := (ev_ne Bf11 32 0 (.string N) (by decide)).trans eBf11_0
  have eBf12_1 := (ev_ne Bf11 32 1 (.string N) (by decide)).trans eBf11_1
  have eBf12_5 := (ev_ne Bf11 32 5 (.string N) (by decide)).trans eBf11_5
  generalize Bf11.put (some 32) (.string N) = Bf12 at hsBf12 hdBf12 eBf12_32 eBf12_33 eBf12_31 eBf12_30 eBf12_29 eBf12_28 eBf12_27 eBf12_24 eBf12_26 eBf12_25 eBf12_23 eBf12_22 eBf12_0 eBf12_1 eBf12_5 ⊢
  clear eBf11_33 eBf11_31 eBf11_30 eBf11_29 eBf11_28 eBf11_27 eBf11_24 eBf11_26 eBf11_25 eBf11_23 eBf11_22 eBf11_0 eBf11_1 eBf11_5 hsBf11 hdBf11
  refine wpAny_ready (rs := [12]) (fuel := 3) (by kernel_rfl) (by decide) ?_
  refine AllReady.cons (o := { dst := some 34, op := Op.call { callee := Callee.value (Operand.func 10), args := #[Operand.tmp 33], argTypes := #[24] }, type := 9, pos := "law.go:80", after := #[{ on := 11, ground := Ground.data }, { on := 10, ground := Ground.chain }, { on := 7, ground := Ground.guard }], guard := some (7, true) }) rfl (fun K hK => ?_) AllReady.nil
  refine step_call1 (wanted_at (d := 29) rfl rfl eBf12_29 (by rw [hsBf12]; decide)) 10 _ (run_call10 _ _ _ _ rfl rfl eBf12_33) ?_
  refine (name_any L hLL w3).mono ?_
  rintro e w5 ⟨rfl, hbw5⟩
  rw [hN]
  have b5 := b3.trans (hbw5.mono b3.size)
  refine hK _ _ ?_
  clear hK K
  change wpAny _ _ ops6 Q 3 _ (Bf12.put (some 34) (.string N)) w5
  have hsBf13 : (Bf12.put (some 34) (.string N)).tmps.size = 37 := by rw [put_size, hsBf12]
  have hdBf13 : (Bf12.put (some 34) (.string N)).defers = a.defers := hdBf12
  have eBf13_34 := ev_same Bf12 34 (.string N) (by rw [hsBf12]; decide)
  have eBf13_32 := (ev_ne Bf12 34 32 (.string N) (by decide)).trans eBf12_32
  have eBf13_33 := (ev_ne Bf12 34 33 (.string N) (by decide)).trans eBf12_33
  have eBf13_31 := (ev_ne Bf12 34 31 (.string N) (by decide)).trans eBf12_31
  have eBf13_30 := (ev_ne Bf12 34 30 (.string N) (by decide)).trans eBf12_30
  have eBf13_29 := (ev_ne Bf12 34 29 (.string N) (by decide)).trans eBf12_29
  have eBf13_28 := (ev_ne Bf12 34 28 (.string N) (by decide)).trans eBf12_28
  have eBf13_27 := (ev_ne Bf12 34 27 (.string N) (by decide)).trans eBf12_27
  have eBf13_24 := (ev_ne Bf12 34 24 (.string N) (by decide)).trans eBf12_24
  have eBf13_26 := (ev_ne Bf12 34 26 (.string N) (by decide)).trans eBf12_26
  have eBf13_25 := (ev_ne Bf12 34 25 (.string N) (by decide)).trans eBf12_25
  have eBf13_23 := (ev_ne Bf12 34 23 (.string N) (by decide)).trans eBf12_23
  have eBf13_22 := (ev_ne Bf12 34 22 (.string N) (by decide)).trans eBf12_22
  have eBf13_0 := (ev_ne Bf12 34 0 (.string N) (by decide)).trans eBf12_0
  have eBf13_1 := (ev_ne Bf12 34 1 (.string N) (by decide)).trans eBf12_1
  have eBf13_5 := (ev_ne Bf12 34 5 (.string N) (by decide)).trans eBf12_5
  generalize Bf12.put (some 34) (.string N) = Bf13 at hsBf13 hdBf13 eBf13_34 eBf13_32 eBf13_33 eBf13_31 eBf13_30 eBf13_29 eBf13_28 eBf13_27 eBf13_24 eBf13_26 eBf13_25 eBf13_23 eBf13_22 eBf13_0 eBf13_1 eBf13_5 ⊢
  clear eBf12_32 eBf12_33 eBf12_31 eBf12_30 eBf12_29 eBf12_28 eBf12_27 eBf12_24 eBf12_26 eBf12_25 eBf12_23 eBf12_22 eBf12_0 eBf12_1 eBf12_5 hsBf12 hdBf12
  refine wpAny_take (i := 13) (fuel := 2) (oi := { dst := some 35, op := Op.binOp BinOp.eql 9 (Operand.tmp 32) (Operand.tmp 34) 9, type := 4, pos := "law.go:80", after := #[{ on := 10, ground := Ground.data }, { on := 12, ground := Ground.data }, { on := 7, ground := Ground.guard }], guard := some (7, true) }) (v := .bool true) rfl (by kernel_rfl) (by kernel_rfl) (by kernel_rfl) (fun c a w h => hQp c a _ _ w h) (Or.inl ⟨(wanted_at (d := 29) rfl rfl eBf13_29 (by rw [hsBf13]; decide)), fun w => ?_⟩) ?_
  · have e1 := eBf13_32
    have e2 := eBf13_34
    exact run_eql _ _ _ _ rfl N e1 e2 w
  change wpAny _ _ ops6 Q 2 _ (Bf13.put (some 35) (.bool true)) w5
  have hsBf14 : (Bf13.put (some 35) (.bool true)).tmps.size = 37 := by rw [put_size, hsBf13]
  have hdBf14 : (Bf13.put (some 35) (.bool true)).defers = a.defers := hdBf13
  have eBf14_35 := ev_same Bf13 35 (.bool true) (by rw [hsBf13]; decide)
  have eBf14_34 := (ev_ne Bf13 35 34 (.bool true) (by decide)).trans eBf13_34
  have eBf14_32 := (ev_ne Bf13 35 32 (.bool true) (by decide)).trans eBf13_32
  have eBf14_33 := (ev_ne Bf13 35 33 (.bool true) (by decide)).trans eBf13_33
  have eBf14_31 := (ev_ne Bf13 35 31 (.bool true) (by decide)).trans eBf13_31
  have eBf14_30 := (ev_ne Bf13 35 30 (.bool true) (by decide)).trans eBf13_30
  have eBf14_29 := (ev_ne Bf13 35 29 (.bool true) (by decide)).trans eBf13_29
  have eBf14_28 := (ev_ne Bf13 35 28 (.bool true) (by decide)).trans eBf13_28
  have eBf14_27 := (ev_ne Bf13 35 27 (.bool true) (by decide)).trans eBf13_27
  have eBf14_24 := (ev_ne Bf13 35 24 (.bool true) (by decide)).trans eBf13_24
  have eBf14_26 := (ev_ne Bf13 35 26 (.bool true) (by decide)).trans eBf13_26
  have eBf14_25 := (ev_ne Bf13 35 25 (.bool true) (by decide)).trans eBf13_25
  have eBf14_23 := (ev_ne Bf13 35 23 (.bool true) (by decide)).trans eBf13_23
  have eBf14_22 := (ev_ne Bf13 35 22 (.bool true) (by decide)).trans eBf13_22
  have eBf14_0 := (ev_ne Bf13 35 0 (.bool true) (by decide)).trans eBf13_0
  have eBf14_1 := (ev_ne Bf13 35 1 (.bool true) (by decide)).trans eBf13_1
  have eBf14_5 := (ev_ne Bf13 35 5 (.bool true) (by decide)).trans eBf13_5
  generalize Bf13.put (some 35) (.bool true) = Bf14 at hsBf14 hdBf14 eBf14_35 eBf14_34 eBf14_32 eBf14_33 eBf14_31 eBf14_30 eBf14_29 eBf14_28 eBf14_27 eBf14_24 eBf14_26 eBf14_25 eBf14_23 eBf14_22 eBf14_0 eBf14_1 eBf14_5 ⊢
  clear eBf13_34 eBf13_32 eBf13_33 eBf13_31 eBf13_30 eBf13_29 eBf13_28 eBf13_27 eBf13_24 eBf13_26 eBf13_25 eBf13_23 eBf13_22 eBf13_0 eBf13_1 eBf13_5 hsBf13 hdBf13
  refine wpAny_take (i := 14) (fuel := 1) (oi := { dst := some 36, op := Op.pick (Operand.tmp 29) (Operand.tmp 35) (Operand.const (Value.bool false)), type := 4, pos := "law.go:80", after := #[{ on := 7, ground := Ground.data }, { on := 13, ground := Ground.data }], guard := none }) (v := .bool true) rfl (by kernel_rfl) (by kernel_rfl) (by kernel_rfl) (fun c a w h => hQp c a _ _ w h) (Or.inl ⟨rfl, fun w => ?_⟩) ?_
  · have e1 := eBf14_29
    have e2 := eBf14_35
    exact run_pick _ _ _ _ _ rfl e1 e2 w
  change wpAny _ _ ops6 Q 1 _ (Bf14.put (some 36) (.bool true)) w5
  have hsBf15 : (Bf14.put (some 36) (.bool true)).tmps.size = 37 := by rw [put_size, hsBf14]
  have hdBf15 : (Bf14.put (some 36) (.bool true)).defers = a.defers := hdBf14
  have eBf15_36 := ev_same Bf14 36 (.bool true) (by rw [hsBf14]; decide)
  have eBf15_35 := (ev_ne Bf14 36 35 (.bool true) (by decide)).trans eBf14_35
  have eBf15_34 := (ev_ne Bf14 36 34 (.bool true) (by decide)).trans eBf14_34
  have eBf15_32 := (ev_ne Bf14 36 32 (.bool true) (by decide)).trans eBf14_32
  have eBf15_33 := (ev_ne Bf14 36 33 (.bool true) (by decide)).trans eBf14_33
  have eBf15_31 := (ev_ne Bf14 36 31 (.bool true) (by decide)).trans eBf14_31
  have eBf15_30 := (ev_ne Bf14 36 30 (.bool true) (by decide)).trans eBf14_30
  have eBf15_29 := (ev_ne Bf14 36 29 (.bool true) (by decide)).trans eBf14_29
  have eBf15_28 := (ev_ne Bf14 36 28 (.bool true) (by decide)).trans eBf14_28
  have eBf15_27 := (ev_ne Bf14 36 27 (.bool true) (by decide)).trans eBf14_27
  have eBf15_24 := (ev_ne Bf14 36 24 (.bool true) (by decide)).trans eBf14_24
  have eBf15_26 := (ev_ne Bf14 36 26 (.bool true) (by decide)).trans eBf14_26
  have eBf15_25 := (ev_ne Bf14 36 25 (.bool true) (by decide)).trans eBf14_25
  have eBf15_23 := (ev_ne Bf14 36 23 (.bool true) (by decide)).trans eBf14_23
  have eBf15_22 := (ev_ne Bf14 36 22 (.bool true) (by decide)).trans eBf14_22
  have eBf15_0 := (ev_ne Bf14 36 0 (.bool true) (by decide)).trans eBf14_0
  have eBf15_1 := (ev_ne Bf14 36 1 (.bool true) (by decide)).trans eBf14_1
  have eBf15_5 := (ev_ne Bf14 36 5 (.bool true) (by decide)).trans eBf14_5
  generalize Bf14.put (some 36) (.bool true) = Bf15 at hsBf15 hdBf15 eBf15_36 eBf15_35 eBf15_34 eBf15_32 eBf15_33 eBf15_31 eBf15_30 eBf15_29 eBf15_28 eBf15_27 eBf15_24 eBf15_26 eBf15_25 eBf15_23 eBf15_22 eBf15_0 eBf15_1 eBf15_5 ⊢
  clear eBf14_35 eBf14_34 eBf14_32 eBf14_33 eBf14_31 eBf14_30 eBf14_29 eBf14_28 eBf14_27 eBf14_24 eBf14_26 eBf14_25 eBf14_23 eBf14_22 eBf14_0 eBf14_1 eBf14_5 hsBf14 hdBf14
  refine wpAny_take (i := 15) (fuel := 0) (oi := { dst := some 4, op := Op.assign (Operand.tmp 36), type := 4, pos := "law.go:80", after := #[{ on := 14, ground := Ground.data }, { on := 12, ground := Ground.chain }, { on := 0, ground := Ground.phase }, { on := 1, ground := Ground.phase }, { on := 2, ground := Ground.phase }, { on := 3, ground := Ground.phase }, { on := 4, ground := Ground.phase }, { on := 5, ground := Ground.phase }, { on := 6, ground := Ground.phase }, { on := 7, ground := Ground.phase }, { on := 8, ground := Ground.phase }, { on := 9, ground := Ground.phase }, { on := 10, ground := Ground.phase }, { on := 11, ground := Ground.phase }, { on := 12, ground := Ground.phase }, { on := 13, ground := Ground.phase }, { on := 14, ground := Ground.phase }], guard := none }) (v := .bool true) rfl (by kernel_rfl) (by kernel_rfl) (by kernel_rfl) (fun c a w h => hQp c a _ _ w h) (Or.inl ⟨rfl, fun w => ?_⟩) ?_
  · exact congrArg (fun v => Result.ok (Next.value v) w) eBf15_36
  change wpAny _ _ ops6 Q 0 _ (Bf15.put (some 4) (.bool true)) w5
  have hsBf16 : (Bf15.put (some 4) (.bool true)).tmps.size = 37 := by rw [put_size, hsBf15]
  have hdBf16 : (Bf15.put (some 4) (.bool true)).defers = a.defers := hdBf15
  have eBf16_4 := ev_same Bf15 4 (.bool true) (by rw [hsBf15]; decide)
  have eBf16_36 := (ev_ne Bf15 4 36 (.bool true) (by decide)).trans eBf15_36
  have eBf16_35 := (ev_ne Bf15 4 35 (.bool true) (by decide)).trans eBf15_35
  have eBf16_34 := (ev_ne Bf15 4 34 (.bool true) (by decide)).trans eBf15_34
  have eBf16_32 := (ev_ne Bf15 4 32 (.bool true) (by decide)).trans eBf15_32
  have eBf16_33 := (ev_ne Bf15 4 33 (.bool true) (by decide)).trans eBf15_33
  have eBf16_31 := (ev_ne Bf15 4 31 (.bool true) (by decide)).trans eBf15_31
  have eBf16_30 := (ev_ne Bf15 4 30 (.bool true) (by decide)).trans eBf15_30
  have eBf16_29 := (ev_ne Bf15 4 29 (.bool true) (by decide)).trans eBf15_29
  have eBf16_28 := (ev_ne Bf15 4 28 (.bool true) (by decide)).trans eBf15_28
  have eBf16_27 := (ev_ne Bf15 4 27 (.bool true) (by decide)).trans eBf15_27
  have eBf16_24 := (ev_ne Bf15 4 24 (.bool true) (by decide)).trans eBf15_24
  have eBf16_26 := (ev_ne Bf15 4 26 (.bool true) (by decide)).trans eBf15_26
  have eBf16_25 := (ev_ne Bf15 4 25 (.bool true) (by decide)).trans eBf15_25
  have eBf16_23 := (ev_ne Bf15 4 23 (.bool true) (by decide)).trans eBf15_23
  have eBf16_22 := (ev_ne Bf15 4 22 (.bool true) (by decide)).trans eBf15_22
  have eBf16_0 := (ev_ne Bf15 4 0 (.bool true) (by decide)).trans eBf15_0
  have eBf16_1 := (ev_ne Bf15 4 1 (.bool true) (by decide)).trans eBf15_1
  have eBf16_5 := (ev_ne Bf15 4 5 (.bool true) (by decide)).trans eBf15_5
  generalize Bf15.put (some 4) (.bool true) = Bf16 at hsBf16 hdBf16 eBf16_4 eBf16_36 eBf16_35 eBf16_34 eBf16_32 eBf16_33 eBf16_31 eBf16_30 eBf16_29 eBf16_28 eBf16_27 eBf16_24 eBf16_26 eBf16_25 eBf16_23 eBf16_22 eBf16_0 eBf16_1 eBf16_5 ⊢
  clear eBf15_36 eBf15_35 eBf15_34 eBf15_32 eBf15_33 eBf15_31 eBf15_30 eBf15_29 eBf15_28 eBf15_27 eBf15_24 eBf15_26 eBf15_25 eBf15_23 eBf15_22 eBf15_0 eBf15_1 eBf15_5 hsBf15 hdBf15
  refine wpAny_done (by kernel_rfl) ?_ _
  exact hq _ _ hsBf16 hdBf16 eBf16_4 b5

set_option maxHeartbeats 400000 in
theorem chains_long (sa sb : ByteArray) (w : World) (ht : Tabs w) (hn : 200 < sa.size ∨ 200 < sb.size) :
    Calls Tryd.prog 6 #[.string sa, .string sb] w fun e w' => e = .returned (.bool true) ∧ Below w.heap.size w w' := by
  have HT := Lib.hid ht
  clear ht
  by_cases h1 : 200 < sa.size
  · have hd : decide ((200 : Int) < (sa.size : Int)) = true := decide_eq_true (by omega)
    clear hn h1
    go_enter Tryd.func6, Tryd.ntmps6
    go_wp2_with fail
    refine (alive_true w HT.out).mono ?_
    rintro e w1 ⟨rfl, hb1⟩
    have HB1 := Lib.hid hb1
    clear hb1
    go_wp2_with fail
    go_ret
    exact ⟨rfl, HB1.out⟩
  · have hd : decide ((200 : Int) < (sa.size : Int)) = false := decide_eq_false (by omega)
    have hd2 : decide ((200 : Int) < (sb.size : Int)) = true := decide_eq_true (by omega)
    clear hn h1
    go_enter Tryd.func6, Tryd.ntmps6
    go_wp2_with fail
    refine (alive_true w HT.out).mono ?_
    rintro e w1 ⟨rfl, hb1⟩
    have HB1 := Lib.hid hb1
    clear hb1
    go_wp2_with fail
    go_ret
    exact ⟨rfl, HB1.out⟩

set_option maxHeartbeats 1000000 in
theorem chains_any (sa sb : ByteArray) (w : World) (ht : Tabs w) (ha : sa.size ≤ 200) (hb : sb.size ≤ 200) :
    Calls Tryd.prog 6 #[.string sa, .string sb] w fun e w' => e = .returned (.bool true) ∧ Below w.heap.size w w' := by
  have HT := Lib.hid ht
  have HA := Lib.hid ha
  have HB := Lib.hid hb
  have hd : decide ((200 : Int) < (sa.size : Int)) = false := decide_eq_false (by omega)
  have hd2 : decide ((200 : Int) < (sb.size : Int)) = false := decide_eq_false (by omega)
  have h1 : ¬ 9223372036854775807 < sa.size + 1 := by omega
  have h2 : ¬ 9223372036854775807 < sa.size + 1 + sb.size := by omega
  clear ht ha hb
  obtain ⟨L, HL⟩ : ∃ L, RowKit.Hid (ofP (sa.data.toList ++ 32 :: sb.data.toList) = L) := ⟨_, Lib.hid rfl⟩
  have HLL : RowKit.Hid (L.length = 32) := Lib.hid (by rw [← HL.out]; rfl)
  have kb := conv_bytes
  go_enter Tryd.func6, Tryd.ntmps6
  go_wp2_with fail
  refine (alive_true w HT.out).mono ?_
  rintro e w1 ⟨rfl, hb1⟩
  have HB1 := Lib.hid hb1
  clear hb1
  go_wp2_with fail
  have hr := rd_chain w1 sa sb
  have hb := below_bytes w1 (sa ++ ⟨#[32]⟩ ++ sb)
  refine (refof_any _ (sa.size + 1 + sb.size) _ _ _ hr (fun h => by cases h) (by have := HA.out; have := HB.out; omega)).mono ?_
  rintro e w2 ⟨rfl, hb2⟩
  rw [← of_ref, HL.out]
  have HB2 := Lib.hid (HB1.out.trans ((hb.trans (hb2.mono hb.size)).mono HB1.out.size))
  clear hb hb2 hr kb HB1
  go_wp2_with (with_reducible refine halt_alloc 23 ?_)
  refine Lib.hid ?_
  refine alloc_row rfl 23 rfl _ 32 info24 ?_
  intro w3 r3 g3 s3
  refine store_row rfl 23 _ _ rfl w2.heap.size (u8s L) rfl rfl 23 _ r3 32 size24 (by rw [u8s_size, HLL.out]) (u8s_size _) (u8s_one _) ?_
  intro w4 r4 g4 s4
  have R4 := Lib.hid r4
  have HB4 := Lib.hid ((HB2.out.grown g3 HB2.out.size (fun _ h => by cases h)).grown g4 (by have := HB2.out.size; omega) (fun k h => by injection h with h; have := HB2.out.size; omega))
  clear r3 g3 s3 r4 g4 s4 HB2
  go_upto_region 6 with fail
  refine region6 _ w4 _ w2.heap.size L sa sb HL.out rfl rfl rfl rfl R4.out (HT.out.below HB4.out HT.out.size) HA.out HB.out (fun _ _ _ _ _ h => h) ?_
  intro a' w' hs' hd' he' hb'
  have HB5 := Lib.hid (HB4.out.trans (hb'.mono HB4.out.size))
  clear hb'
  go_wp2_with fail
  refine bodyPost_ret (v := .bool true) ?_ hd' ⟨rfl, HB5.out⟩
  exact results_at rfl he'
end Go.Proofs.YtbklcelnnmhgkaaDoor
