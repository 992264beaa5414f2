/- Contract of the law DigestTells. -/
import Derived.Test.YtbklcelnnmhgkaaDoorStp
namespace Go.Proofs.YtbklcelnnmhgkaaDoor
open Go.RowKit

/-- The operations of the law's last statement. -/
def ops5 : Array Oper := #[{ dst := some 10, op := Op.move (Operand.tmp 0), type := 22, pos := "law.go:27", after := #[], guard := none }, { dst := some 11, op := Op.call { callee := Callee.value (Operand.func 8), args := #[Operand.tmp 10], argTypes := #[22] }, type := 9, pos := "law.go:27", after := #[{ on := 0, ground := Ground.data }], guard := none }, { dst := some 12, op := Op.move (Operand.tmp 0), type := 22, pos := "law.go:27", after := #[], guard := none }, { dst := some 13, op := Op.call { callee := Callee.value (Operand.func 9), args := #[Operand.tmp 12], argTypes := #[22] }, type := 9, pos := "law.go:27", after := #[{ on := 2, ground := Ground.data }, { on := 1, ground := Ground.chain }], guard := none }, { dst := some 14, op := Op.binOp BinOp.eql 9 (Operand.tmp 11) (Operand.tmp 13) 9, type := 4, pos := "law.go:27", after := #[{ on := 1, ground := Ground.data }, { on := 3, ground := Ground.data }], guard := none }, { dst := some 15, op := Op.move (Operand.tmp 14), type := 4, pos := "law.go:27", after := #[{ on := 4, ground := Ground.data }, { on := 3, ground := Ground.chain }], guard := none }, { dst := some 16, op := Op.load 24 (Operand.tmp 3), type := 24, pos := "law.go:27", after := #[{ on := 5, ground := Ground.guard }], guard := some (5, true) }, { dst := some 17, op := Op.call { callee := Callee.value (Operand.func 10), args := #[Operand.tmp 16], argTypes := #[24] }, type := 9, pos := "law.go:27", after := #[{ on := 6, ground := Ground.data }, { on := 5, ground := Ground.chain }, { on := 5, ground := Ground.guard }], guard := some (5, true) }, { dst := some 18, op := Op.slice 24 (Operand.tmp 3) none none none, type := 22, pos := "law.go:27", after := #[{ on := 5, ground := Ground.guard }], guard := some (5, true) }, { dst := some 19, op := Op.call { callee := Callee.value (Operand.func 11), args := #[Operand.tmp 18], argTypes := #[22] }, type := 9, pos := "law.go:27", after := #[{ on := 8, ground := Ground.data }, { on := 7, ground := Ground.chain }, { on := 5, ground := Ground.guard }], guard := some (5, true) }, { dst := some 20, op := Op.binOp BinOp.add 9 (Operand.const (Value.string { data := #[115, 104, 97, 50, 53, 54, 58] })) (Operand.tmp 19) 9, type := 9, pos := "law.go:27", after := #[{ on := 9, ground := Ground.data }, { on := 5, ground := Ground.guard }], guard := some (5, true) }, { dst := some 21, op := Op.binOp BinOp.eql 9 (Operand.tmp 17) (Operand.tmp 20) 9, type := 4, pos := "law.go:27", after := #[{ on := 7, ground := Ground.data }, { on := 10, ground := Ground.data }, { on := 5, ground := Ground.guard }], guard := some (5, true) }, { dst := some 22, op := Op.pick (Operand.tmp 15) (Operand.tmp 21) (Operand.const (Value.bool false)), type := 4, pos := "law.go:27", after := #[{ on := 5, ground := Ground.data }, { on := 11, ground := Ground.data }], guard := none }, { dst := some 4, op := Op.assign (Operand.tmp 22), type := 4, pos := "law.go:27", after := #[{ on := 12, ground := Ground.data }, { on := 9, ground := Ground.chain }, { on := 0, ground := Ground.phase }, { on := 1, ground := Ground.phase }, { on := 2, ground := Ground.phase }, { on := 3, ground := Ground.phase }, { on := 4, ground := Ground.phase }, { on := 5, ground := Ground.phase }, { on := 6, ground := Ground.phase }, { on := 7, ground := Ground.phase }, { on := 8, ground := Ground.phase }, { on := 9, ground := Ground.phase }, { on := 10, ground := Ground.phase }, { on := 11, ground := Ground.phase }, { on := 12, ground := Ground.phase }], guard := none }]

set_option maxHeartbeats 1000000 in
theorem region5 (a : Act) (w : World) (Q : Exit → Act → World → Prop) (g : Nat) (M : List UInt8) (hM : M.length = 32) (A : Option Addr) (n c : Nat) (l : List UInt8) (hs : a.tmps.size = 23) (h0 : a.eval (.tmp 0) = .slice A n c) (h3 : a.eval (.tmp 3) = PG g 0)
    (hr : Row w g (u8s M) 24) (hrd : Rd w w.heap.size A n (us l)) (hc : A = none → c = 0) (ht : Tabs w) (hn : n ≤ 300)
    (hQp : ∀ c a (i : Nat) v w, Q (.panic c) (a.put (some i) v) w → Q (.panic c) a w)
    (h1 : ∀ a' w', a'.tmps.size = 23 → a'.defers = a.defers → a'.eval (.tmp 4) = .bool true → Below w.heap.size w w' → Q .normal a' w') :
    (Code.region 5 ops5 true).wp Tryd.prog Q a w := by
  refine wp_region_any (by kernel_rfl) ?_
  change wpAny _ _ _ _ _ _ _ (World.drew _)
  have hr := hr.drew
  have hrd : Rd w.drew w.drew.heap.size A n (us l) := hrd
  have ht : Tabs w.drew := ⟨ht.k, ht.s, ht.size⟩
  have h1 : ∀ a' w', a'.tmps.size = 23 → a'.defers = a.defers → a'.eval (.tmp 4) = .bool true → Below w.drew.heap.size w.drew w' → Q .normal a' w' := fun a' w' x1 x2 x3 hy => h1 a' w' x1 x2 x3 ⟨hy.os, hy.tape, hy.output, hy.size, hy.block⟩
  generalize w.drew = w at hr hrd ht h1 ⊢
  obtain ⟨N, hN⟩ : ∃ N, nameP (ofP l) = N := ⟨_, rfl⟩
  show wpAny _ _ ops5 Q 14 (Array.replicate 14 false) a w
  refine wpAny_take (i := 0) (fuel := 13) (oi := { dst := some 10, op := Op.move (Operand.tmp 0), type := 22, pos := "law.go:27", after := #[], guard := none }) (v := .slice A n c) rfl (by kernel_rfl) (by kernel_rfl) (by kernel_rfl) (fun c a w h => hQp c a _ _ w h) (Or.inl ⟨rfl, fun w => ?_⟩) ?_
  · exact congrArg (fun v => Result.ok (Next.value v) w) h0
  change wpAny _ _ ops5 Q 13 _ (a.put (some 10) (.slice A n c)) w
  have hsBt1 : (a.put (some 10) (.slice A n c)).tmps.size = 23 := by rw [put_size, hs]
  have hdBt1 : (a.put (some 10) (.slice A n c)).defers = a.defers := rfl
  have eBt1_10 := ev_same a 10 (.slice A n c) (by rw [hs]; decide)
  have eBt1_0 := (ev_ne a 10 0 (.slice A n c) (by decide)).trans h0
  have eBt1_3 := (ev_ne a 10 3 (.slice A n c) (by decide)).trans h3
  generalize a.put (some 10) (.slice A n c) = Bt1 at hsBt1 hdBt1 eBt1_10 eBt1_0 eBt1_3 ⊢
  refine wpAny_take (i := 2) (fuel := 12) (oi := { dst := some 12, op := Op.move (Operand.tmp 0), type := 22, pos := "law.go:27", after := #[], guard := none }) (v := .slice A n c) rfl (by kernel_rfl) (by kernel_rfl) (by kernel_rfl) (fun c a w h => hQp c a _ _ w h) (Or.inl ⟨rfl, fun w => ?_⟩) ?_
  · exact congrArg (fun v => Result.ok (Next.value v) w) eBt1_0
  change wpAny _ _ ops5 Q 12 _ (Bt1.put (some 12) (.slice A n c)) w
  have hsBt2 : (Bt1.put (some 12) (.slice A n c)).tmps.size = 23 := by rw [put_size, hsBt1]
  have hdBt2 : (Bt1.put (some 12) (.slice A n c)).defers = a.defers := hdBt1
  have eBt2_12 := ev_same Bt1 12 (.slice A n c) (by rw [hsBt1]; decide)
  have eBt2_10 := (ev_ne Bt1 12 10 (.slice A n c) (by decide)).trans eBt1_10
  have eBt2_0 := (ev_ne Bt1 12 0 (.slice A n c) (by decide)).trans eBt1_0
  have eBt2_3 := (ev_ne Bt1 12 3 (.slice A n c) (by decide)).trans eBt1_3
  generalize Bt1.put (some 12) (.slice A n c) = Bt2 at hsBt2 hdBt2 eBt2_12 eBt2_10 eBt2_0 eBt2_3 ⊢
  clear eBt1_10 eBt1_0 eBt1_3 hsBt1 hdBt1
  refine wpAny_ready (rs := [1]) (fuel := 11) (by kernel_rfl) (by decide) ?_
  refine AllReady.cons (o := { dst := some 11, op := Op.call { callee := Callee.value (Operand.func 8), args := #[Operand.tmp 10], argTypes := #[22] }, type := 9, pos := "law.go:27", after := #[{ on := 0, ground := Ground.data }], guard := none }) rfl (fun K hK => ?_) AllReady.nil
  refine step_call1 rfl 8 _ (run_call8 _ _ _ _ rfl rfl eBt2_10) ?_
  refine (dof_any A n c l w hrd hc ht (Nat.le_trans hn (by decide))).mono ?_
  rintro e w1 ⟨rfl, hbw1⟩
  rw [hN]
  have r1 := hr.below hbw1 hr.lt
  refine hK _ _ ?_
  clear hK K
  change wpAny _ _ ops5 Q 11 _ (Bt2.put (some 11) (.string N)) w1
  have hsBt3 : (Bt2.put (some 11) (.string N)).tmps.size = 23 := by rw [put_size, hsBt2]
  have hdBt3 : (Bt2.put (some 11) (.string N)).defers = a.defers := hdBt2
  have eBt3_11 := ev_same Bt2 11 (.string N) (by rw [hsBt2]; decide)
  have eBt3_12 := (ev_ne Bt2 11 12 (.string N) (by decide)).trans eBt2_12
  have eBt3_10 := (ev_ne Bt2 11 10 (.string N) (by decide)).trans eBt2_10
  have eBt3_0 := (ev_ne Bt2 11 0 (.string N) (by decide)).trans eBt2_0
  have eBt3_3 := (ev_ne Bt2 11 3 (.string N) (by decide)).trans eBt2_3
  generalize Bt2.put (some 11) (.string N) = Bt3 at hsBt3 hdBt3 eBt3_11 eBt3_12 eBt3_10 eBt3_0 eBt3_3 ⊢
  clear eBt2_12 eBt2_10 eBt2_0 eBt2_3 hsBt2 hdBt2
  refine wpAny_ready (rs := [3]) (fuel := 10) (by kernel_rfl) (by decide) ?_
  refine AllReady.cons (o := { dst := some 13, op := Op.call { callee := Callee.value (Operand.func 9), args := #[Operand.tmp 12], argTypes := #[22] }, type := 9, pos := "law.go:27", after := #[{ on := 2, ground := Ground.data }, { on := 1, ground := Ground.chain }], guard := none }) rfl (fun K hK => ?_) AllReady.nil
  refine step_call1 rfl 9 _ (run_call9 _ _ _ _ rfl rfl eBt3_12) ?_
  refine (rof_any A n c l w1 (hrd.next hbw1) hc (Nat.le_trans hn (by decide))).mono ?_
  rintro e w2 ⟨rfl, hbw2⟩
  rw [hN]
  have r2 := r1.below hbw2 r1.lt
  have b2 := hbw1.trans (hbw2.mono hbw1.size)
  refine hK _ _ ?_
  clear hK K
  change wpAny _ _ ops5 Q 10 _ (Bt3.put (some 13) (.string N)) w2
  have hsBt4 : (Bt3.put (some 13) (.string N)).tmps.size = 23 := by rw [put_size, hsBt3]
  have hdBt4 : (Bt3.put (some 13) (.string N)).defers = a.defers := hdBt3
  have eBt4_13 := ev_same Bt3 13 (.string N) (by rw [hsBt3]; decide)
  have eBt4_11 := (ev_ne Bt3 13 11 (.string N) (by decide)).trans eBt3_11
  have eBt4_12 := (ev_ne Bt3 13 12 (.string N) (by decide)).trans eBt3_12
  have eBt4_10 := (ev_ne Bt3 13 10 (.string N) (by decide)).trans eBt3_10
  have eBt4_0 := (ev_ne Bt3 13 0 (.string N) (by decide)).trans eBt3_0
  have eBt4_3 := (ev_ne Bt3 13 3 (.string N) (by decide)).trans eBt3_3
  generalize Bt3.put (some 13) (.string N) = Bt4 at hsBt4 hdBt4 eBt4_13 eBt4_11 eBt4_12 eBt4_10 eBt4_0 eBt4_3 ⊢
  clear eBt3_11 eBt3_12 eBt3_10 eBt3_0 eBt3_3 hsBt3 hdBt3
  refine wpAny_take (i := 4) (fuel := 9) (oi := { dst := some 14, op := Op.binOp BinOp.eql 9 (Operand.tmp 11) (Operand.tmp 13) 9, type := 4, pos := "law.go:27", after := #[{ on := 1, ground := Ground.data }, { on := 3, ground := Ground.data }], guard := none }) (v := .bool true) rfl (by kernel_rfl) (by kernel_rfl) (by kernel_rfl) (fun c a w h => hQp c a _ _ w h) (Or.inl ⟨rfl, fun w => ?_⟩) ?_
  · have e1 := eBt4_11
    have e2 := eBt4_13
    exact run_eql _ _ _ _ rfl N e1 e2 w
  change wpAny _ _ ops5 Q 9 _ (Bt4.put (some 14) (.bool true)) w2
  have hsBt5 : (Bt4.put (some 14) (.bool true)).tmps.size = 23 := by rw [put_size, hsBt4]
  have hdBt5 : (Bt4.put (some 14) (.bool true)).defers = a.defers := hdBt4
  have eBt5_14 := ev_same Bt4 14 (.bool true) (by rw [hsBt4]; decide)
  have eBt5_13 := (ev_ne Bt4 14 13 (.bool true) (by decide)).trans eBt4_13
  have eBt5_11 := (ev_ne Bt4 14 11 (.bool true) (by decide)).trans eBt4_11
  have eBt5_12 := (ev_ne Bt4 14 12 (.bool true) (by decide)).trans eBt4_12
  have eBt5_10 := (ev_ne Bt4 14 10 (.bool true) (by decide)).trans eBt4_10
  have eBt5_0 := (ev_ne Bt4 14 0 (.bool true) (by decide)).trans eBt4_0
  have eBt5_3 := (ev_ne Bt4 14 3 (.bool true) (by decide)).trans eBt4_3
  generalize Bt4.put (some 14) (.bool true) = Bt5 at hsBt5 hdBt5 eBt5_14 eBt5_13 eBt5_11 eBt5_12 eBt5_10 eBt5_0 eBt5_3 ⊢
  clear eBt4_13 eBt4_11 eBt4_12 eBt4_10 eBt4_0 eBt4_3 hsBt4 hdBt4
  refine wpAny_take (i := 5) (fuel := 8) (oi := { dst := some 15, op := Op.move (Operand.tmp 14), type := 4, pos := "law.go:27", after := #[{ on := 4, ground := Ground.data }, { on := 3, ground := Ground.chain }], guard := none }) (v := .bool true) rfl (by kernel_rfl) (by kernel_rfl) (by kernel_rfl) (fun c a w h => hQp c a _ _ w h) (Or.inl ⟨rfl, fun w => ?_⟩) ?_
  · exact congrArg (fun v => Result.ok (Next.value v) w) eBt5_14
  change wpAny _ _ ops5 Q 8 _ (Bt5.put (some 15) (.bool true)) w2
  have hsBt6 : (Bt5.put (some 15) (.bool true)).tmps.size = 23 := by rw [put_size, hsBt5]
  have hdBt6 : (Bt5.put (some 15) (.bool true)).defers = a.defers := hdBt5
  have eBt6_15 := ev_same Bt5 15 (.bool true) (by rw [hsBt5]; decide)
  have eBt6_14 := (ev_ne Bt5 15 14 (.bool true) (by decide)).trans eBt5_14
  have eBt6_13 := (ev_ne Bt5 15 13 (.bool true) (by decide)).trans eBt5_13
  have eBt6_11 := (ev_ne Bt5 15 11 (.bool true) (by decide)).trans eBt5_11
  have eBt6_12 := (ev_ne Bt5 15 12 (.bool true) (by decide)).trans eBt5_12
  have eBt6_10 := (ev_ne Bt5 15 10 (.bool true) (by decide)).trans eBt5_10
  have eBt6_0 := (ev_ne Bt5 15 0 (.bool true) (by decide)).trans eBt5_0
  have eBt6_3 := (ev_ne Bt5 15 3 (.bool true) (by decide)).trans eBt5_3
  generalize Bt5.put (some 15) (.bool true) = Bt6 at hsBt6 hdBt6 eBt6_15 eBt6_14 eBt6_13 eBt6_11 eBt6_12 eBt6_10 eBt6_0 eBt6_3 ⊢
  clear eBt5_14 eBt5_13 eBt5_11 eBt5_12 eBt5_10 eBt5_0 eBt5_3 hsBt5 hdBt5
  refine wpAny_take (i := 8) (fuel := 7) (oi := { dst := some 18, op := Op.slice 24 (Operand.tmp 3) none none none, type := 22, pos := "law.go:27", after := #[{ on := 5, ground := Ground.guard }], guard := some (5, true) }) (v := .slice (some ⟨g, 0, none⟩) 32 32) rfl (by kernel_rfl) (by kernel_rfl) (by kernel_rfl) (fun c a w h => hQp c a _ _ w h) (Or.inl ⟨(wanted_at (d := 15) rfl rfl eBt6_15 (by rw [hsBt6]; decide)), fun w => ?_⟩) ?_
  · have e1 := eBt6_3
    exact run_slice24 _ _ _ rfl g e1 w
  change wpAny _ _ ops5 Q 7 _ (Bt6.put (some 18) (.slice (some ⟨g, 0, none⟩) 32 32)) w2
  have hsBt7 : (Bt6.put (some 18) (.slice (some ⟨g, 0, none⟩) 32 32)).tmps.size = 23 := by rw [put_size, hsBt6]
  have hdBt7 : (Bt6.put (some 18) (.slice (some ⟨g, 0, none⟩) 32 32)).defers = a.defers := hdBt6
  have eBt7_18 := ev_same Bt6 18 (.slice (some ⟨g, 0, none⟩) 32 32) (by rw [hsBt6]; decide)
  have eBt7_15 := (ev_ne Bt6 18 15 (.slice (some ⟨g, 0, none⟩) 32 32) (by decide)).trans eBt6_15
  have eBt7_14 := (ev_ne Bt6 18 14 (.slice (some ⟨g, 0, none⟩) 32 32) (by decide)).trans eBt6_14
  have eBt7_13 := (ev_ne Bt6 18 13 (.slice (some ⟨g, 0, none⟩) 32 32) (by decide)).trans eBt6_13
  have eBt7_11 := (ev_ne Bt6 18 11 (.slice (some ⟨g, 0, none⟩) 32 32) (by decide)).trans eBt6_11
  have eBt7_12 := (ev_ne Bt6 18 12 (.slice (some ⟨g, 0, none⟩) 32 32) (by decide)).trans eBt6_12
  have eBt7_10 := (ev_ne Bt6 18 10 (.slice (some ⟨g, 0, none⟩) 32 32) (by decide)).trans eBt6_10
  have eBt7_0 := (ev_ne Bt6 18 0 (.slice (some ⟨g, 0, none⟩) 32 32) (by decide)).trans eBt6_0
  have eBt7_3 := (ev_ne Bt6 18 3 (.slice (some ⟨g, 0, none⟩) 32 32) (by decide)).trans eBt6_3
  generalize Bt6.put (some 18) (.slice (some ⟨g, 0, none⟩) 32 32) = Bt7 at hsBt7 hdBt7 eBt7_18 eBt7_15 eBt7_14 eBt7_13 eBt7_11 eBt7_12 eBt7_10 eBt7_0 eBt7_3 ⊢
  clear eBt6_15 eBt6_14 eBt6_13 eBt6_11 eBt6_12 eBt6_10 eBt6_0 eBt6_3 hsBt6 hdBt6
  refine wpAny_ready (rs := [6]) (fuel := 6) (by kernel_rfl) (by decide) ?_
  refine AllReady.cons (o := { dst := some 16, op := Op.load 24 (Operand.tmp 3), type := 24, pos := "law.go:27", after := #[{ on := 5, ground := Ground.guard }], guard := some (5, true) }) rfl (fun K hK => ?_) AllReady.nil
  refine step_load_g (wanted_at (d := 15) rfl rfl eBt7_15 (by rw [hsBt7]; decide)) 24 _ rfl g eBt7_3 _ (u8s M) _ r2 Tryd.underlying24 rfl (by rw [size25, u8s_size, hM]) ?_
  refine hK _ _ ?_
  clear hK K
  change wpAny _ _ ops5 Q 6 _ (Bt7.put (some 16) (.agg (u8s M))) w2
  have hsBt8 : (Bt7.put (some 16) (.agg (u8s M))).tmps.size = 23 := by rw [put_size, hsBt7]
  have hdBt8 : (Bt7.put (some 16) (.agg (u8s M))).defers = a.defers := hdBt7
  have eBt8_16 := ev_same Bt7 16 (.agg (u8s M)) (by rw [hsBt7]; decide)
  have eBt8_18 := (ev_ne Bt7 16 18 (.agg (u8s M)) (by decide)).trans eBt7_18
  have eBt8_15 := (ev_ne Bt7 16 15 (.agg (u8s M)) (by decide)).trans eBt7_15
  have eBt8_14 := (ev_ne Bt7 16 14 (.agg (u8s M)) (by decide)).trans eBt7_14
  have eBt8_13 := (ev_ne Bt7 16 13 (.agg (u8s M)) (by decide)).trans eBt7_13
  have eBt8_11 := (ev_ne Bt7 16 11 (.agg (u8s M)) (by decide)).trans eBt7_11
  have eBt8_12 := (ev_ne Bt7 16 12 (.agg (u8s M)) (by decide)).trans eBt7_12
  have eBt8_10 := (ev_ne Bt7 16 10 (.agg (u8s M)) (by decide)).trans eBt7_10
  have eBt8_0 := (ev_ne Bt7 16 0 (.agg (u8s M)) (by decide)).trans eBt7_0
  have eBt8_3 := (ev_ne Bt7 16 3 (.agg (u8s M)) (by decide)).trans eBt7_3
  generalize Bt7.put (some 16) (.agg (u8s M)) = Bt8 at hsBt8 hdBt8 eBt8_16 eBt8_18 eBt8_15 eBt8_14 eBt8_13 eBt8_11 eBt8_12 eBt8_10 eBt8_0 eBt8_3 ⊢
  clear eBt7_18 eBt7_15 eBt7_14 eBt7_13 eBt7_11 eBt7_12 eBt7_10 eBt7_0 eBt7_3 hsBt7 hdBt7
  refine wpAny_ready (rs := [7]) (fuel := 5) (by kernel_rfl) (by decide) ?_
  refine AllReady.cons (o := { dst := some 17, op := Op.call { callee := Callee.value (Operand.func 10), args := #[Operand.tmp 16], argTypes := #[24] }, type := 9, pos := "law.go:27", after := #[{ on := 6, ground := Ground.data }, { on := 5, ground := Ground.chain }, { on := 5, ground := Ground.guard }], guard := some (5, true) }) rfl (fun K hK => ?_) AllReady.nil
  refine step_call1 (wanted_at (d := 15) rfl rfl eBt8_15 (by rw [hsBt8]; decide)) 10 _ (run_call10 _ _ _ _ rfl rfl eBt8_16) ?_
  refine (name_any M hM w2).mono ?_
  rintro e w3 ⟨rfl, hbw3⟩
  have r3 := r2.below hbw3 r2.lt
  have b3 := b2.trans (hbw3.mono b2.size)
  refine hK _ _ ?_
  clear hK K
  change wpAny _ _ ops5 Q 5 _ (Bt8.put (some 17) (.string (nameP M))) w3
  have hsBt9 : (Bt8.put (some 17) (.string (nameP M))).tmps.size = 23 := by rw [put_size, hsBt8]
  have hdBt9 : (Bt8.put (some 17) (.string (nameP M))).defers = a.defers := hdBt8
  have eBt9_17 := ev_same Bt8 17 (.string (nameP M)) (by rw [hsBt8]; decide)
  have eBt9_16 := (ev_ne Bt8 17 16 (.string (nameP M)) (by decide)).trans eBt8_16
  have eBt9_18 := (ev_ne Bt8 17 18 (.string (nameP M)) (by decide)).trans eBt8_18
  have eBt9_15 := (ev_ne Bt8 17 15 (.string (nameP M)) (by decide)).trans eBt8_15
  have eBt9_14 := (ev_ne Bt8 17 14 (.string (nameP M)) (by decide)).trans eBt8_14
  have eBt9_13 := (ev_ne Bt8 17 13 (.string (nameP M)) (by decide)).trans eBt8_13
  have eBt9_11 := (ev_ne Bt8 17 11 (.string (nameP M)) (by decide)).trans eBt8_11
  have eBt9_12 := (ev_ne Bt8 17 12 (.string (nameP M)) (by decide)).trans eBt8_12
  have eBt9_10 := (ev_ne Bt8 17 10 (.string (nameP M)) (by decide)).trans eBt8_10
  have eBt9_0 := (ev_ne Bt8 17 0 (.string (nameP M)) (by decide)).trans eBt8_0
  have eBt9_3 := (ev_ne Bt8 17 3 (.string (nameP M)) (by decide)).trans eBt8_3
  generalize Bt8.put (some 17) (.string (nameP M)) = Bt9 at hsBt9 hdBt9 eBt9_17 eBt9_16 eBt9_18 eBt9_15 eBt9_14 eBt9_13 eBt9_11 eBt9_12 eBt9_10 eBt9_0 eBt9_3 ⊢
  clear eBt8_16 eBt8_18 eBt8_15 eBt8_14 eBt8_13 eBt8_11 eBt8_12 eBt8_10 eBt8_0 eBt8_3 hsBt8 hdBt8
  refine wpAny_ready (rs := [9]) (fuel := 4) (by kernel_rfl) (by decide) ?_
  refine AllReady.cons (o := { dst := some 19, op := Op.call { callee := Callee.value (Operand.func 11), args := #[Operand.tmp 18], argTypes := #[22] }, type := 9, pos := "law.go:27", after := #[{ on := 8, ground := Ground.data }, { on := 7, ground := Ground.chain }, { on := 5, ground := Ground.guard }], guard := some (5, true) }) rfl (fun K hK => ?_) AllReady.nil
  refine step_call1 (wanted_at (d := 15) rfl rfl eBt9_15 (by rw [hsBt9]; decide)) 11 _ (run_call11 _ _ _ _ rfl rfl eBt9_18) ?_
  refine (refhex_any _ 32 32 M w3 (r3.rd hM) (by decide)).mono ?_
  rintro e w4 ⟨rfl, hbw4⟩
  have b4 := b3.trans (hbw4.mono b3.size)
  refine hK _ _ ?_
  clear hK K
  change wpAny _ _ ops5 Q 4 _ (Bt9.put (some 19) (.string ⟨(hexL M).toArray⟩)) w4
  have hsBt10 : (Bt9.put (some 19) (.string ⟨(hexL M).toArray⟩)).tmps.size = 23 := by rw [put_size, hsBt9]
  have hdBt10 : (Bt9.put (some 19) (.string ⟨(hexL M).toArray⟩)).defers = a.defers := hdBt9
  have eBt10_19 := ev_same Bt9 19 (.string ⟨(hexL M).toArray⟩) (by rw [hsBt9]; decide)
  have eBt10_17 := (ev_ne Bt9 19 17 (.string ⟨(hexL M).toArray⟩) (by decide)).trans eBt9_17
  have eBt10_16 := (ev_ne Bt9 19 16 (.string ⟨(hexL M).toArray⟩) (by decide)).trans eBt9_16
  have eBt10_18 := (ev_ne Bt9 19 18 (.string ⟨(hexL M).toArray⟩) (by decide)).trans eBt9_18
  have eBt10_15 := (ev_ne Bt9 19 15 (.string ⟨(hexL M).toArray⟩) (by decide)).trans eBt9_15
  have eBt10_14 := (ev_ne Bt9 19 14 (.string ⟨(hexL M).toArray⟩) (by decide)).trans eBt9_14
  have eBt10_13 := (ev_ne Bt9 19 13 (.string ⟨(hexL M).toArray⟩) (by decide)).trans eBt9_13
  have eBt10_11 := (ev_ne Bt9 19 11 (.string ⟨(hexL M).toArray⟩) (by decide)).trans eBt9_11
  have eBt10_12 := (ev_ne Bt9 19 12 (.string ⟨(hexL M).toArray⟩) (by decide)).trans eBt9_12
  have eBt10_10 := (ev_ne Bt9 19 10 (.string ⟨(hexL M).toArray⟩) (by decide)).trans eBt9_10
  have eBt10_0 := (ev_ne Bt9 19 0 (.string ⟨(hexL M).toArray⟩) (by decide)).trans eBt9_0
  have eBt10_3 := (ev_ne Bt9 19 3 (.string ⟨(hexL M).toArray⟩) (by decide)).trans eBt9_3
  generalize Bt9.put (some 19) (.string ⟨(hexL M).toArray⟩) = Bt10 at hsBt10 hdBt10 eBt10_19 eBt10_17 eBt10_16 eBt10_18 eBt10_15 eBt10_14 eBt10_13 eBt10_11 eBt10_12 eBt10_10 eBt10_0 eBt10_3 ⊢
  clear eBt9_17 eBt9_16 eBt9_18 eBt9_15 eBt9_14 eBt9_13 eBt9_11 eBt9_12 eBt9_10 eBt9_0 eBt9_3 hsBt9 hdBt9
  refine wpAny_take (i := 10) (fuel := 3) (oi := { dst := some 20, op := Op.binOp BinOp.add 9 (Operand.const (Value.string { data := #[115, 104, 97, 50, 53, 54, 58] })) (Operand.tmp 19) 9, type := 9, pos := "law.go:27", after := #[{ on := 9, ground := Ground.data }, { on := 5, ground := Ground.guard }], guard := some (5, true) }) (v := .string (nameP M)) rfl (by kernel_rfl) (by kernel_rfl) (by kernel_rfl) (fun c a w h => hQp c a _ _ w h) (Or.inl ⟨(wanted_at (d := 15) rfl rfl eBt10_15 (by rw [hsBt10]; decide)), fun w => ?_⟩) ?_
  · have e1 := eBt10_19
    exact run_pre _ _ _ rfl M hM e1 w
  change wpAny _ _ ops5 Q 3 _ (Bt10.put (some 20) (.string (nameP M))) w4
  have hsBt11 : (Bt10.put (some 20) (.string (nameP M))).tmps.size = 23 := by rw [put_size, hsBt10]
  have hdBt11 : (Bt10.put (some 20) (.string (nameP M))).defers = a.defers := hdBt10
  have eBt11_20 := ev_same Bt10 20 (.string (nameP M)) (by rw [hsBt10]; decide)
  have eBt11_19 := (ev_ne Bt10 20 19 (.string (nameP M)) (by decide)).trans eBt10_19
  have eBt11_17 := (ev_ne Bt10 20 17 (.string (nameP M)) (by decide)).trans eBt10_17
  have eBt11_16 := (ev_ne Bt10 20 16 (.string (nameP M)) (by decide)).trans eBt10_16
  have eBt11_18 := (ev_ne Bt10 20 18 (.string (nameP M)) (by decide)).trans eBt10_18
  have eBt11_15 := (ev_ne Bt10 20 15 (.string (nameP M)) (by decide)).trans eBt10_15
  have eBt11_14 := (ev_ne Bt10 20 14 (.string (nameP M)) (by decide)).trans eBt10_14
  have eBt11_13 := (ev_ne Bt10 20 13 (.string (nameP M)) (by decide)).trans eBt10_13
  have eBt11_11 := (ev_ne Bt10 20 11 (.string (nameP M)) (by decide)).trans eBt10_11
  have eBt11_12 := (ev_ne Bt10 20 12 (.string (nameP M)) (by decide)).trans eBt10_12
  have eBt11_10 := (ev_ne Bt10 20 10 (.string (nameP M)) (by decide)).trans eBt10_10
  have eBt11_0 := (ev_ne Bt10 20 0 (.string (nameP M)) (by decide)).trans eBt10_0
  have eBt11_3 := (ev_ne Bt10 20 3 (.string (nameP M)) (by decide)).trans eBt10_3
  generalize Bt10.put (some 20) (.string (nameP M)) = Bt11 at hsBt11 hdBt11 eBt11_20 eBt11_19 eBt11_17 eBt11_16 eBt11_18 eBt11_15 eBt11_14 eBt11_13 eBt11_11 eBt11_12 eBt11_10 eBt11_0 eBt11_3 ⊢
  clear eBt10_19 eBt10_17 eBt10_16 eBt10_18 eBt10_15 eBt10_14 eBt10_13 eBt10_11 eBt10_12 eBt10_10 eBt10_0 eBt10_3 hsBt10 hdBt10
  refine wpAny_take (i := 11) (fuel := 2) (oi := { dst := some 21, op := Op.binOp BinOp.eql 9 (Operand.tmp 17) (Operand.tmp 20) 9, type := 4, pos := "law.go:27", after := #[{ on := 7, ground := Ground.data }, { on := 10, ground := Ground.data }, { on := 5, ground := Ground.guard }], guard := some (5, true) }) (v := .bool true) rfl (by kernel_rfl) (by kernel_rfl) (by kernel_rfl) (fun c a w h => hQp c a _ _ w h) (Or.inl ⟨(wanted_at (d := 15) rfl rfl eBt11_15 (by rw [hsBt11]; decide)), fun w => ?_⟩) ?_
  · have e1 := eBt11_17
    have e2 := eBt11_20
    exact run_eql _ _ _ _ rfl (nameP M) e1 e2 w
  change wpAny _ _ ops5 Q 2 _ (Bt11.put (some 21) (.bool true)) w4
  have hsBt12 : (Bt11.put (some 21) (.bool true)).tmps.size = 23 := by rw [put_size, hsBt11]
  have hdBt12 : (Bt11.put (some 21) (.bool true)).defers = a.defers := hdBt11
  have eBt12_21 := ev_same Bt11 21 (.bool true) (by rw [hsBt11]; decide)
  have eBt12_20 := (ev_ne Bt11 21 20 (.bool true) (by decide)).trans eBt11_20
  have eBt12_19 := (ev_ne Bt11 21 19 (.bool true) (by decide)).trans eBt11_19
  have eBt12_17 := (ev_ne Bt11 21 17 (.bool true) (by decide)).trans eBt11_17
  have eBt12_16 := (ev_ne Bt11 21 16 (.bool true) (by decide)).trans eBt11_16
  have eBt12_18 := (ev_ne Bt11 21 18 (.bool true) (by decide)).trans eBt11_18
  have eBt12_15 := (ev_ne Bt11 21 15 (.bool true) (by decide)).trans eBt11_15
  have eBt12_14 := (ev_ne Bt11 21 14 (.bool true) (by decide)).trans eBt11_14
  have eBt12_13 := (ev_ne Bt11 21 13 (.bool true) (by decide)).trans eBt11_13
  have eBt12_11 := (ev_ne Bt11 21 11 (.bool true) (by decide)).trans eBt11_11
  have eBt12_12 := (ev_ne Bt11 21 12 (.bool true) (by decide)).trans eBt11_12
  have eBt12_10 := (ev_ne Bt11 21 10 (.bool true) (by decide)).trans eBt11_10
  have eBt12_0 := (ev_ne Bt11 21 0 (.bool true) (by decide)).trans eBt11_0
  have eBt12_3 := (ev_ne Bt11 21 3 (.bool true) (by decide)).trans eBt11_3
  generalize Bt11.put (some 21) (.bool true) = Bt12 at hsBt12 hdBt12 eBt12_21 eBt12_20 eBt12_19 eBt12_17 eBt12_16 eBt12_18 eBt12_15 eBt12_14 eBt12_13 eBt12_11 eBt12_12 eBt12_10 eBt12_0 eBt12_3 ⊢
  clear eBt11_20 eBt11_19 eBt11_17 eBt11_16 eBt11_18 eBt11_15 eBt11_14 eBt11_13 eBt11_11 eBt11_12 eBt11_10 eBt11_0 eBt11_3 hsBt11 hdBt11
  refine wpAny_take (i := 12) (fuel := 1) (oi := { dst := some 22, op := Op.pick (Operand.tmp 15) (Operand.tmp 21) (Operand.const (Value.bool false)), type := 4, pos := "law.go:27", after := #[{ on := 5, ground := Ground.data }, { on := 11, ground := Ground.data }], guard := none }) (v := .bool true) rfl (by kernel_rfl) (by kernel_rfl) (by kernel_rfl) (fun c a w h => hQp c a _ _ w h) (Or.inl ⟨rfl, fun w => ?_⟩) ?_
  · have e1 := eBt12_15
    have e2 := eBt12_21
    exact run_pick _ _ _ _ _ rfl e1 e2 w
  change wpAny _ _ ops5 Q 1 _ (Bt12.put (some 22) (.bool true)) w4
  have hsBt13 : (Bt12.put (some 22) (.bool true)).tmps.size = 23 := by rw [put_size, hsBt12]
  have hdBt13 : (Bt12.put (some 22) (.bool true)).defers = a.defers := hdBt12
  have eBt13_22 := ev_same Bt12 22 (.bool true) (by rw [hsBt12]; decide)
  have eBt13_21 := (ev_ne Bt12 22 21 (.bool true) (by decide)).trans eBt12_21
  have eBt13_20 := (ev_ne Bt12 22 20 (.bool true) (by decide)).trans eBt12_20
  have eBt13_19 := (ev_ne Bt12 22 19 (.bool true) (by decide)).trans eBt12_19
  have eBt13_17 := (ev_ne Bt12 22 17 (.bool true) (by decide)).trans eBt12_17
  have eBt13_16 := (ev_ne Bt12 22 16 (.bool true) (by decide)).trans eBt12_16
  have eBt13_18 := (ev_ne Bt12 22 18 (.bool true) (by decide)).trans eBt12_18
  have eBt13_15 := (ev_ne Bt12 22 15 (.bool true) (by decide)).trans eBt12_15
  have eBt13_14 := (ev_ne Bt12 22 14 (.bool true) (by decide)).trans eBt12_14
  have eBt13_13 := (ev_ne Bt12 22 13 (.bool true) (by decide)).trans eBt12_13
  have eBt13_11 := (ev_ne Bt12 22 11 (.bool true) (by decide)).trans eBt12_11
  have eBt13_12 := (ev_ne Bt12 22 12 (.bool true) (by decide)).trans eBt12_12
  have eBt13_10 := (ev_ne Bt12 22 10 (.bool true) (by decide)).trans eBt12_10
  have eBt13_0 := (ev_ne Bt12 22 0 (.bool true) (by decide)).trans eBt12_0
  have eBt13_3 := (ev_ne Bt12 22 3 (.bool true) (by decide)).trans eBt12_3
  generalize Bt12.put (some 22) (.bool true) = Bt13 at hsBt13 hdBt13 eBt13_22 eBt13_21 eBt13_20 eBt13_19 eBt13_17 eBt13_16 eBt13_18 eBt13_15 eBt13_14 eBt13_13 eBt13_11 eBt13_12 eBt13_10 eBt13_0 eBt13_3 ⊢
  clear eBt12_21 eBt12_20 eBt12_19 eBt12_17 eBt12_16 eBt12_18 eBt12_15 eBt12_14 eBt12_13 eBt12_11 eBt12_12 eBt12_10 eBt12_0 eBt12_3 hsBt12 hdBt12
  refine wpAny_take (i := 13) (fuel := 0) (oi := { dst := some 4, op := Op.assign (Operand.tmp 22), type := 4, pos := "law.go:27", after := #[{ on := 12, ground := Ground.data }, { on := 9, ground := Ground.chain }, { on := 0, ground := Ground.phase }, { on := 1, ground := Ground.phase }, { on := 2, ground := Ground.phase }, { on := 3, ground := Ground.phase }, { on := 4, ground := Ground.phase }, { on := 5, ground := Ground.phase }, { on := 6, ground := Ground.phase }, { on := 7, ground := Ground.phase }, { on := 8, ground := Ground.phase }, { on := 9, ground := Ground.phase }, { on := 10, ground := Ground.phase }, { on := 11, ground := Ground.phase }, { on := 12, ground := Ground.phase }], guard := none }) (v := .bool true) rfl (by kernel_rfl) (by kernel_rfl) (by kernel_rfl) (fun c a w h => hQp c a _ _ w h) (Or.inl ⟨rfl, fun w => ?_⟩) ?_
  · exact congrArg (fun v => Result.ok (Next.value v) w) eBt13_22
  change wpAny _ _ ops5 Q 0 _ (Bt13.put (some 4) (.bool true)) w4
  have hsBt14 : (Bt13.put (some 4) (.bool true)).tmps.size = 23 := by rw [put_size, hsBt13]
  have hdBt14 : (Bt13.put (some 4) (.bool true)).defers = a.defers := hdBt13
  have eBt14_4 := ev_same Bt13 4 (.bool true) (by rw [hsBt13]; decide)
  have eBt14_22 := (ev_ne Bt13 4 22 (.bool true) (by decide)).trans eBt13_22
  have eBt14_21 := (ev_ne Bt13 4 21 (.bool true) (by decide)).trans eBt13_21
  have eBt14_20 := (ev_ne Bt13 4 20 (.bool true) (by decide)).trans eBt13_20
  have eBt14_19 := (ev_ne Bt13 4 19 (.bool true) (by decide)).trans eBt13_19
  have eBt14_17 := (ev_ne Bt13 4 17 (.bool true) (by decide)).trans eBt13_17
  have eBt14_16 := (ev_ne Bt13 4 16 (.bool true) (by decide)).trans eBt13_16
  have eBt14_18 := (ev_ne Bt13 4 18 (.bool true) (by decide)).trans eBt13_18
  have eBt14_15 := (ev_ne Bt13 4 15 (.bool true) (by decide)).trans eBt13_15
  have eBt14_14 := (ev_ne Bt13 4 14 (.bool true) (by decide)).trans eBt13_14
  have eBt14_13 := (ev_ne Bt13 4 13 (.bool true) (by decide)).trans eBt13_13
  have eBt14_11 := (ev_ne Bt13 4 11 (.bool true) (by decide)).trans eBt13_11
  have eBt14_12 := (ev_ne Bt13 4 12 (.bool true) (by decide)).trans eBt13_12
  have eBt14_10 := (ev_ne Bt13 4 10 (.bool true) (by decide)).trans eBt13_10
  have eBt14_0 := (ev_ne Bt13 4 0 (.bool true) (by decide)).trans eBt13_0
  have eBt14_3 := (ev_ne Bt13 4 3 (.bool true) (by decide)).trans eBt13_3
  generalize Bt13.put (some 4) (.bool true) = Bt14 at hsBt14 hdBt14 eBt14_4 eBt14_22 eBt14_21 eBt14_20 eBt14_19 eBt14_17 eBt14_16 eBt14_18 eBt14_15 eBt14_14 eBt14_13 eBt14_11 eBt14_12 eBt14_10 eBt14_0 eBt14_3 ⊢
  clear eBt13_22 eBt13_21 eBt13_20 eBt13_19 eBt13_17 eBt13_16 eBt13_18 eBt13_15 eBt13_14 eBt13_13 eBt13_11 eBt13_12 eBt13_10 eBt13_0 eBt13_3 hsBt13 hdBt13
  refine wpAny_done (by kernel_rfl) ?_ _
  exact h1 _ _ hsBt14 hdBt14 eBt14_4 b4

set_option maxHeartbeats 400000 in
theorem tells_long (A : Option Addr) (n c : Nat) (M : List UInt8) (w : World) (ht : Tabs w) (hn : 300 < n) :
    Calls Tryd.prog 3 #[.slice A n c, .agg (u8s M)] w fun e w' => e = .returned (.bool true) ∧ Below w.heap.size w w' := by
  have HT := Lib.hid ht
  clear ht
  have hd : decide ((300 : Int) < (n : Int)) = true := decide_eq_true (by omega)
  clear hn
  go_enter Tryd.func3, Tryd.ntmps3
  go_upto_region 0 with fail
  go_step
  refine box_row rfl 24 _ rfl (u8s M) rfl ?_
  intro w1 r1 g1 s1
  have HB1 := Lib.hid (below_make g1)
  clear r1 g1 s1
  go_wp2_with fail
  refine (alive_true w1 (HT.out.below HB1.out HT.out.size)).mono ?_
  rintro e w2 ⟨rfl, hb2⟩
  have HB2 := Lib.hid (HB1.out.trans (hb2.mono HB1.out.size))
  clear hb2 HB1
  go_wp2_with fail
  go_ret
  exact ⟨rfl, HB2.out⟩

set_option maxHeartbeats 1000000 in
theorem tells_any (A : Option Addr) (n c : Nat) (l M : List UInt8) (w : World) (hr : Rd w w.heap.size A n (us l)) (hc : A = none → c = 0) (ht : Tabs w) (hn : n ≤ 300) (hM : M.length = 32) :
    Calls Tryd.prog 3 #[.slice A n c, .agg (u8s M)] w fun e w' => e = .returned (.bool true) ∧ Below w.heap.size w w' := by
  have HR := Lib.hid hr
  have HC := Lib.hid hc
  have HT := Lib.hid ht
  have HN := Lib.hid hn
  have HM := Lib.hid hM
  have hd : decide ((300 : Int) < (n : Int)) = false := decide_eq_false (by omega)
  clear hr hc ht hn hM
  go_enter Tryd.func3, Tryd.ntmps3
  go_upto_region 0 with fail
  go_step
  refine box_row rfl 24 _ rfl (u8s M) rfl ?_
  intro w1 r1 g1 s1
  have R1 := Lib.hid r1
  have HB1 := Lib.hid (below_make g1)
  clear r1 g1 s1
  go_wp2_with fail
  refine (alive_true w1 (HT.out.below HB1.out HT.out.size)).mono ?_
  rintro e w2 ⟨rfl, hb2⟩
  have R2 := Lib.hid (R1.out.below hb2 R1.out.lt)
  have HB2 := Lib.hid (HB1.out.trans (hb2.mono HB1.out.size))
  clear hb2 HB1 R1
  go_upto_region 5 with fail
  refine region5 _ w2 _ w.heap.size M HM.out A n c l rfl rfl rfl R2.out (HR.out.next HB2.out) HC.out (HT.out.below HB2.out HT.out.size) HN.out (fun _ _ _ _ _ h => h) ?_
  intro a' w' hs' hd' he' hb'
  have HB3 := Lib.hid (HB2.out.trans (hb'.mono HB2.out.size))
  clear hb'
  go_wp2_with fail
  refine bodyPost_ret (v := .bool true) ?_ hd' ⟨rfl, HB3.out⟩
  exact results_at rfl he'
end Go.Proofs.YtbklcelnnmhgkaaDoor
