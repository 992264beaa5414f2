/- What the law DigestTakes needs: the answers of Parse, Short and Long as one value each; the law's greatest statement (a region that draws). -/
import Derived.Test.YtbklcelnnmhgkaaDoorStp
namespace Go.Proofs.YtbklcelnnmhgkaaDoor
open Go.RowKit

/-- No error, or ErrForm. -/
def errV : Bool → Value
  | true => .nilIface
  | false => .iface 37 (.int .i64 2)
def isP (s : ByteArray) : Bool := (parseF s.data.toList).isSome
def isS (s : ByteArray) : Bool := (sumF s.data.toList).isSome
def digF (s : ByteArray) : List UInt8 := (parseF s.data.toList).getD zero32
def shF (s : ByteArray) : ByteArray := ⟨(((parseF s.data.toList).map hexL).getD []).toArray⟩
def lgF (s : ByteArray) : ByteArray := ⟨(((sumF s.data.toList).map fun L => preL ++ hexL L).getD []).toArray⟩

theorem parse_g (s : ByteArray) (w : World) (hs : s.size ≤ 8000) : Calls Tryd.prog 13 #[.string s] w fun e w' => e = .returned (.tuple #[.agg (u8s (digF s)), errV (isP s)]) ∧ Below w.heap.size w w' :=
  (parse_any s w hs).mono fun e w' h => by
    unfold digF isP
    cases hp : parseF s.data.toList with
    | none => rw [hp] at h; exact h
    | some L => rw [hp] at h; exact h
theorem short_g (s : ByteArray) (w : World) (hs : s.size ≤ 8000) : Calls Tryd.prog 14 #[.string s] w fun e w' => e = .returned (.tuple #[.string (shF s), errV (isP s)]) ∧ Below w.heap.size w w' :=
  (short_any s w hs).mono fun e w' h => by
    unfold shF isP
    cases hp : parseF s.data.toList with
    | none => rw [hp] at h; exact h
    | some L => rw [hp] at h; exact h
theorem long_g (s : ByteArray) (w : World) (hs : s.size ≤ 8000) : Calls Tryd.prog 15 #[.string s] w fun e w' => e = .returned (.tuple #[.string (lgF s), errV (isS s)]) ∧ Below w.heap.size w w' :=
  (long_any s w hs).mono fun e w' h => by
    unfold lgF isS
    cases hp : sumF s.data.toList with
    | none => rw [hp] at h; exact h
    | some L => rw [hp] at h; exact h
theorem dig_len (s : ByteArray) : (digF s).length = 32 := by
  unfold digF
  cases hp : parseF s.data.toList with
  | none => rfl
  | some L => exact (parse_name hp).1
theorem of_list (s : ByteArray) (l : List UInt8) (h : l = s.data.toList) : (⟨l.toArray⟩ : ByteArray) = s := by
  subst h
  apply ByteArray.ext
  simp
theorem dig_no {s : ByteArray} (h : isP s = false) : digF s = zero32 ∧ shF s = ⟨#[]⟩ := by
  unfold isP at h
  unfold digF shF
  cases hp : parseF s.data.toList with
  | none => exact ⟨rfl, rfl⟩
  | some L => rw [hp] at h; cases h
theorem dig_yes {s : ByteArray} (h : isP s = true) : nameP (digF s) = s ∧ shF s = s.extract 7 s.size ∧ 7 ≤ s.size := by
  unfold isP at h
  unfold digF shF
  cases hp : parseF s.data.toList with
  | none => rw [hp] at h; cases h
  | some L =>
    obtain ⟨h1, h2, h3⟩ := parse_name hp
    have h7 : 7 ≤ s.size := by
      have := congrArg List.length h3
      rw [List.length_append] at this
      simp [preL] at this
      omega
    refine ⟨of_list s _ h3, ?_, h7⟩
    refine of_list _ _ ?_
    show hexL L = _
    rw [h2]
    have e := Lib.extract_toList s 7 s.size
    rw [toList_eq, List.take_of_length_le (by simp)] at e
    exact e.symm
theorem pres_list (s : ByteArray) : (⟨#[115, 104, 97, 50, 53, 54, 58]⟩ ++ s : ByteArray).data.toList = preL ++ s.data.toList := by
  simp [preL, ByteArray.data_append]
theorem long_no {s : ByteArray} (h : isS s = false) : lgF s = ⟨#[]⟩ := by
  unfold isS at h
  unfold lgF
  cases hp : sumF s.data.toList with
  | none => rfl
  | some L => rw [hp] at h; cases h
theorem long_yes {s : ByteArray} (h : isS s = true) : lgF s = ⟨#[115, 104, 97, 50, 53, 54, 58]⟩ ++ s := by
  unfold isS at h
  unfold lgF
  cases hp : sumF s.data.toList with
  | none => rw [hp] at h; cases h
  | some L =>
    refine of_list _ _ ?_
    rw [pres_list]
    show preL ++ hexL L = _
    rw [(sum_len hp).2]

theorem run_neqb (a : Act) (o : Oper) (x y : Operand) (ho : o.op = .binOp .neq 4 x y 4) (b : Bool) (e1 : a.eval x = .bool b) (e2 : a.eval y = .bool b) (w : World) : (execOp a.eval o).run Tryd.prog w = .ok (.value (.bool false)) w := by
  unfold execOp
  simp only [ho, e1, e2]
  cases b <;> go_simp
theorem run_isnil (a : Act) (o : Oper) (x : Operand) (ho : o.op = .binOp .eql 31 x (.const .nilIface) 31) (b : Bool) (e1 : a.eval x = errV b) (w : World) : (execOp a.eval o).run Tryd.prog w = .ok (.value (.bool b)) w := by
  unfold execOp
  cases b
  · have e1 : a.eval x = .iface 37 (.int .i64 2) := e1
    simp only [ho, e1]
    go_simp
  · have e1 : a.eval x = .nilIface := e1
    simp only [ho, e1]
    go_simp
theorem run_pickf (a : Act) (o : Oper) (x y z : Operand) (ho : o.op = .pick x y z) (e1 : a.eval x = .bool false) (e2 : a.eval z = .bool false) (w : World) : (execOp a.eval o).run Tryd.prog w = .ok (.value (.bool false)) w := by
  unfold execOp
  simp only [ho, e1, e2]
  go_simp
theorem run_pres (a : Act) (o : Oper) (y : Operand) (ho : o.op = .binOp .add 9 (.const (.string ⟨#[115, 104, 97, 50, 53, 54, 58]⟩)) y 9) (s : ByteArray) (hs : s.size ≤ 8000) (e1 : a.eval y = .string s) (w : World) : (execOp a.eval o).run Tryd.prog w = .ok (.value (.string (⟨#[115, 104, 97, 50, 53, 54, 58]⟩ ++ s))) w := by
  have hsz : ¬ 9223372036854775807 < 7 + s.size := by omega
  unfold execOp
  simp only [ho, e1]
  go_simp
theorem run_call12 (ρ : Operand → Value) (o : Oper) (x : Operand) (v : Value) (ho : o.op = .call { callee := .value (.func 12), args := #[x], argTypes := #[9] }) (hf : ρ (.func 12) = .func (.func 12) #[] #[]) (e : ρ x = v) (w : World) : (execOp ρ o).run Tryd.prog w = .ok (.enter 12 #[v]) w := by
  unfold execOp
  simp only [ho]
  go_simp
theorem run_call16 (ρ : Operand → Value) (o : Oper) (x : Operand) (v : Value) (ho : o.op = .call { callee := .value (.func 16), args := #[x], argTypes := #[9] }) (hf : ρ (.func 16) = .func (.func 16) #[] #[]) (e : ρ x = v) (w : World) : (execOp ρ o).run Tryd.prog w = .ok (.enter 16 #[v]) w := by
  unfold execOp
  simp only [ho]
  go_simp

/-- The operations of the law's first question. -/
def ops9t : Array Oper := #[{ dst := some 32, op := Op.move (Operand.tmp 0), type := 9, pos := "law.go:42", after := #[], guard := none }, { dst := some 33, op := Op.call { callee := Callee.value (Operand.func 16), args := #[Operand.tmp 32], argTypes := #[9] }, type := 4, pos := "law.go:42", after := #[{ on := 0, ground := Ground.data }], guard := none }, { dst := some 34, op := Op.move (Operand.tmp 3), type := 4, pos := "law.go:42", after := #[], guard := none }, { dst := some 35, op := Op.binOp BinOp.neq 4 (Operand.tmp 33) (Operand.tmp 34) 4, type := 4, pos := "law.go:42", after := #[{ on := 1, ground := Ground.data }, { on := 2, ground := Ground.data }], guard := none }, { dst := some 36, op := Op.move (Operand.tmp 35), type := 4, pos := "law.go:42", after := #[{ on := 3, ground := Ground.data }, { on := 1, ground := Ground.chain }], guard := none }, { dst := some 37, op := Op.move (Operand.tmp 5), type := 31, pos := "law.go:42", after := #[{ on := 4, ground := Ground.guard }], guard := some (4, false) }, { dst := some 38, op := Op.binOp BinOp.eql 31 (Operand.tmp 37) (Operand.const Value.nilIface) 31, type := 4, pos := "law.go:42", after := #[{ on := 5, ground := Ground.data }, { on := 4, ground := Ground.guard }], guard := some (4, false) }, { dst := some 39, op := Op.move (Operand.tmp 3), type := 4, pos := "law.go:42", after := #[{ on := 4, ground := Ground.guard }], guard := some (4, false) }, { dst := some 40, op := Op.binOp BinOp.neq 4 (Operand.tmp 38) (Operand.tmp 39) 4, type := 4, pos := "law.go:42", after := #[{ on := 6, ground := Ground.data }, { on := 7, ground := Ground.data }, { on := 4, ground := Ground.guard }], guard := some (4, false) }, { dst := some 41, op := Op.pick (Operand.tmp 36) (Operand.const (Value.bool true)) (Operand.tmp 40), type := 4, pos := "law.go:42", after := #[{ on := 4, ground := Ground.data }, { on := 8, ground := Ground.data }], guard := none }, { dst := some 42, op := Op.move (Operand.tmp 41), type := 4, pos := "law.go:42", after := #[{ on := 9, ground := Ground.data }, { on := 4, ground := Ground.chain }], guard := none }, { dst := some 43, op := Op.move (Operand.tmp 7), type := 31, pos := "law.go:42", after := #[{ on := 10, ground := Ground.guard }], guard := some (10, false) }, { dst := some 44, op := Op.binOp BinOp.eql 31 (Operand.tmp 43) (Operand.const Value.nilIface) 31, type := 4, pos := "law.go:42", after := #[{ on := 11, ground := Ground.data }, { on := 10, ground := Ground.guard }], guard := some (10, false) }, { dst := some 45, op := Op.move (Operand.tmp 3), type := 4, pos := "law.go:42", after := #[{ on := 10, ground := Ground.guard }], guard := some (10, false) }, { dst := some 46, op := Op.binOp BinOp.neq 4 (Operand.tmp 44) (Operand.tmp 45) 4, type := 4, pos := "law.go:42", after := #[{ on := 12, ground := Ground.data }, { on := 13, ground := Ground.data }, { on := 10, ground := Ground.guard }], guard := some (10, false) }, { dst := some 47, op := Op.pick (Operand.tmp 42) (Operand.const (Value.bool true)) (Operand.tmp 46), type := 4, pos := "law.go:42", after := #[{ on := 10, ground := Ground.data }, { on := 14, ground := Ground.data }], guard := none }, { dst := some 48, op := Op.move (Operand.tmp 47), type := 4, pos := "law.go:42", after := #[{ on := 15, ground := Ground.data }, { on := 10, ground := Ground.chain }], guard := none }, { dst := some 49, op := Op.move (Operand.tmp 9), type := 31, pos := "law.go:42", after := #[{ on := 16, ground := Ground.guard }], guard := some (16, false) }, { dst := some 50, op := Op.binOp BinOp.eql 31 (Operand.tmp 49) (Operand.const Value.nilIface) 31, type := 4, pos := "law.go:42", after := #[{ on := 17, ground := Ground.data }, { on := 16, ground := Ground.guard }], guard := some (16, false) }, { dst := some 51, op := Op.move (Operand.tmp 0), type := 9, pos := "law.go:42", after := #[{ on := 16, ground := Ground.guard }], guard := some (16, false) }, { dst := some 52, op := Op.binOp BinOp.add 9 (Operand.const (Value.string { data := #[115, 104, 97, 50, 53, 54, 58] })) (Operand.tmp 51) 9, type := 9, pos := "law.go:42", after := #[{ on := 19, ground := Ground.data }, { on := 16, ground := Ground.guard }], guard := some (16, false) }, { dst := some 53, op := Op.call { callee := Callee.value (Operand.func 12), args := #[Operand.tmp 52], argTypes := #[9] }, type := 4, pos := "law.go:42", after := #[{ on := 20, ground := Ground.data }, { on := 16, ground := Ground.chain }, { on := 16, ground := Ground.guard }], guard := some (16, false) }, { dst := some 54, op := Op.binOp BinOp.neq 4 (Operand.tmp 50) (Operand.tmp 53) 4, type := 4, pos := "law.go:42", after := #[{ on := 18, ground := Ground.data }, { on := 21, ground := Ground.data }, { on := 16, ground := Ground.guard }], guard := some (16, false) }, { dst := some 55, op := Op.pick (Operand.tmp 48) (Operand.const (Value.bool true)) (Operand.tmp 54), type := 4, pos := "law.go:42", after := #[{ on := 16, ground := Ground.data }, { on := 22, ground := Ground.data }], guard := none }]

set_option maxHeartbeats 1000000 in
theorem region9t (a : Act) (w : World) (Q : Exit → Act → World → Prop) (s : ByteArray) (R G : Bool) (hR : (parseF s.data.toList).isSome = R) (hG' : isS s = G) (hz : s.size ≤ 8000) (hs : a.tmps.size = 104) (h0 : a.eval (.tmp 0) = .string s) (h3 : a.eval (.tmp 3) = .bool R) (v4 v6 v8 : Value) (h4 : a.eval (.tmp 4) = v4) (h6 : a.eval (.tmp 6) = v6) (h8 : a.eval (.tmp 8) = v8) (h5 : a.eval (.tmp 5) = errV R) (h7 : a.eval (.tmp 7) = errV R) (h9 : a.eval (.tmp 9) = errV G)
    (hQp : ∀ c a (i : Nat) v w, Q (.panic c) (a.put (some i) v) w → Q (.panic c) a w)
    (hq : ∀ a' w', a'.tmps.size = 104 → a'.defers = a.defers → a'.eval (.tmp 0) = .string s → a'.eval (.tmp 3) = .bool R → a'.eval (.tmp 4) = v4 → a'.eval (.tmp 5) = errV R → a'.eval (.tmp 6) = v6 → a'.eval (.tmp 7) = errV R → a'.eval (.tmp 8) = v8 → a'.eval (.tmp 9) = errV G → a'.eval (.tmp 55) = .bool false → Below w.heap.size w w' → Q .normal a' w') :
    (Code.region 9 ops9t true).wp Tryd.prog Q a w := by
  refine wp_region_any (by kernel_rfl) ?_
  change wpAny _ _ _ _ _ _ _ (World.drew _)
  have hq : ∀ a' w', a'.tmps.size = 104 → a'.defers = a.defers → a'.eval (.tmp 0) = .string s → a'.eval (.tmp 3) = .bool R → a'.eval (.tmp 4) = v4 → a'.eval (.tmp 5) = errV R → a'.eval (.tmp 6) = v6 → a'.eval (.tmp 7) = errV R → a'.eval (.tmp 8) = v8 → a'.eval (.tmp 9) = errV G → a'.eval (.tmp 55) = .bool false → Below w.drew.heap.size w.drew w' → Q .normal a' w' := fun a' w' x1 x2 x3 x4 x5 x6 x7 x8 x9 y1 y2 hy => hq a' w' x1 x2 x3 x4 x5 x6 x7 x8 x9 y1 y2 ⟨hy.os, hy.tape, hy.output, hy.size, hy.block⟩
  generalize w.drew = w at hq ⊢
  have hG : isF (⟨#[115, 104, 97, 50, 53, 54, 58]⟩ ++ s : ByteArray).data.toList = G := by rw [pres_list, sum_pre, ← hG']; rfl
  show wpAny _ _ ops9t Q 24 (Array.replicate 24 false) a w
  refine wpAny_take (i := 0) (fuel := 23) (oi := { dst := some 32, op := Op.move (Operand.tmp 0), type := 9, pos := "law.go:42", after := #[], guard := none }) (v := .string s) rfl (by kernel_rfl) (by kernel_rfl) (by kernel_rfl) (fun c a w h => hQp c a _ _ w h) (Or.inl ⟨rfl, fun w => ?_⟩) ?_
  · exact congrArg (fun v => Result.ok (Next.value v) w) h0
  change wpAny _ _ ops9t Q 23 _ (a.put (some 32) (.string s)) w
  have hsBk1 : (a.put (some 32) (.string s)).tmps.size = 104 := by rw [put_size, hs]
  have hdBk1 : (a.put (some 32) (.string s)).defers = a.defers := rfl
  have eBk1_32 := ev_same a 32 (.string s) (by rw [hs]; decide)
  have eBk1_0 := (ev_ne a 32 0 (.string s) (by decide)).trans h0
  have eBk1_3 := (ev_ne a 32 3 (.string s) (by decide)).trans h3
  have eBk1_4 := (ev_ne a 32 4 (.string s) (by decide)).trans h4
  have eBk1_5 := (ev_ne a 32 5 (.string s) (by decide)).trans h5
  have eBk1_6 := (ev_ne a 32 6 (.string s) (by decide)).trans h6
  have eBk1_7 := (ev_ne a 32 7 (.string s) (by decide)).trans h7
  have eBk1_8 := (ev_ne a 32 8 (.string s) (by decide)).trans h8
  have eBk1_9 := (ev_ne a 32 9 (.string s) (by decide)).trans h9
  generalize a.put (some 32) (.string s) = Bk1 at hsBk1 hdBk1 eBk1_32 eBk1_0 eBk1_3 eBk1_4 eBk1_5 eBk1_6 eBk1_7 eBk1_8 eBk1_9 ⊢
  refine wpAny_take (i := 2) (fuel := 22) (oi := { dst := some 34, op := Op.move (Operand.tmp 3), type := 4, pos := "law.go:42", after := #[], guard := none }) (v := .bool R) rfl (by kernel_rfl) (by kernel_rfl) (by kernel_rfl) (fun c a w h => hQp c a _ _ w h) (Or.inl ⟨rfl, fun w => ?_⟩) ?_
  · exact congrArg (fun v => Result.ok (Next.value v) w) eBk1_3
  change wpAny _ _ ops9t Q 22 _ (Bk1.put (some 34) (.bool R)) w
  have hsBk2 : (Bk1.put (some 34) (.bool R)).tmps.size = 104 := by rw [put_size, hsBk1]
  have hdBk2 : (Bk1.put (some 34) (.bool R)).defers = a.defers := hdBk1
  have eBk2_34 := ev_same Bk1 34 (.bool R) (by rw [hsBk1]; decide)
  have eBk2_32 := (ev_ne Bk1 34 32 (.bool R) (by decide)).trans eBk1_32
  have eBk2_0 := (ev_ne Bk1 34 0 (.bool R) (by decide)).trans eBk1_0
  have eBk2_3 := (ev_ne Bk1 34 3 (.bool R) (by decide)).trans eBk1_3
  have eBk2_4 := (ev_ne Bk1 34 4 (.bool R) (by decide)).trans eBk1_4
  have eBk2_5 := (ev_ne Bk1 34 5 (.bool R) (by decide)).trans eBk1_5
  have eBk2_6 := (ev_ne Bk1 34 6 (.bool R) (by decide)).trans eBk1_6
  have eBk2_7 := (ev_ne Bk1 34 7 (.bool R) (by decide)).trans eBk1_7
  have eBk2_8 := (ev_ne Bk1 34 8 (.bool R) (by decide)).trans eBk1_8
  have eBk2_9 := (ev_ne Bk1 34 9 (.bool R) (by decide)).trans eBk1_9
  generalize Bk1.put (some 34) (.bool R) = Bk2 at hsBk2 hdBk2 eBk2_34 eBk2_32 eBk2_0 eBk2_3 eBk2_4 eBk2_5 eBk2_6 eBk2_7 eBk2_8 eBk2_9 ⊢
  clear eBk1_32 eBk1_0 eBk1_3 eBk1_4 eBk1_5 eBk1_6 eBk1_7 eBk1_8 eBk1_9 hsBk1 hdBk1
  refine wpAny_ready (rs := [1]) (fuel := 21) (by kernel_rfl) (by decide) ?_
  refine AllReady.cons (o := { dst := some 33, op := Op.call { callee := Callee.value (Operand.func 16), args := #[Operand.tmp 32], argTypes := #[9] }, type := 4, pos := "law.go:42", after := #[{ on := 0, ground := Ground.data }], guard := none }) rfl (fun K hK => ?_) AllReady.nil
  refine step_call1 rfl 16 _ (run_call16 _ _ _ _ rfl rfl eBk2_32) ?_
  refine (dis_any s w hz).mono ?_
  rintro e w1 ⟨rfl, hbw1⟩
  rw [hR]
  refine hK _ _ ?_
  clear hK K
  change wpAny _ _ ops9t Q 21 _ (Bk2.put (some 33) (.bool R)) w1
  have hsBk3 : (Bk2.put (some 33) (.bool R)).tmps.size = 104 := by rw [put_size, hsBk2]
  have hdBk3 : (Bk2.put (some 33) (.bool R)).defers = a.defers := hdBk2
  have eBk3_33 := ev_same Bk2 33 (.bool R) (by rw [hsBk2]; decide)
  have eBk3_34 := (ev_ne Bk2 33 34 (.bool R) (by decide)).trans eBk2_34
  have eBk3_32 := (ev_ne Bk2 33 32 (.bool R) (by decide)).trans eBk2_32
  have eBk3_0 := (ev_ne Bk2 33 0 (.bool R) (by decide)).trans eBk2_0
  have eBk3_3 := (ev_ne Bk2 33 3 (.bool R) (by decide)).trans eBk2_3
  have eBk3_4 := (ev_ne Bk2 33 4 (.bool R) (by decide)).trans eBk2_4
  have eBk3_5 := (ev_ne Bk2 33 5 (.bool R) (by decide)).trans eBk2_5
  have eBk3_6 := (ev_ne Bk2 33 6 (.bool R) (by decide)).trans eBk2_6
  have eBk3_7 := (ev_ne Bk2 33 7 (.bool R) (by decide)).trans eBk2_7
  have eBk3_8 := (ev_ne Bk2 33 8 (.bool R) (by decide)).trans eBk2_8
  have eBk3_9 := (ev_ne Bk2 33 9 (.bool R) (by decide)).trans eBk2_9
  generalize Bk2.put (some 33) (.bool R) = Bk3 at hsBk3 hdBk3 eBk3_33 eBk3_34 eBk3_32 eBk3_0 eBk3_3 eBk3_4 eBk3_5 eBk3_6 eBk3_7 eBk3_8 eBk3_9 ⊢
  clear eBk2_34 eBk2_32 eBk2_0 eBk2_3 eBk2_4 eBk2_5 eBk2_6 eBk2_7 eBk2_8 eBk2_9 hsBk2 hdBk2
  refine wpAny_take (i := 3) (fuel := 20) (oi := { dst := some 35, op := Op.binOp BinOp.neq 4 (Operand.tmp 33) (Operand.tmp 34) 4, type := 4, pos := "law.go:42", after := #[{ on := 1, ground := Ground.data }, { on := 2, ground := Ground.data }], guard := none }) (v := .bool false) rfl (by kernel_rfl) (by kernel_rfl) (by kernel_rfl) (fun c a w h => hQp c a _ _ w h) (Or.inl ⟨rfl, fun w => ?_⟩) ?_
  · have e1 := eBk3_33
    have e2 := eBk3_34
    exact run_neqb _ _ _ _ rfl R e1 e2 w
  change wpAny _ _ ops9t Q 20 _ (Bk3.put (some 35) (.bool false)) w1
  have hsBk4 : (Bk3.put (some 35) (.bool false)).tmps.size = 104 := by rw [put_size, hsBk3]
  have hdBk4 : (Bk3.put (some 35) (.bool false)).defers = a.defers := hdBk3
  have eBk4_35 := ev_same Bk3 35 (.bool false) (by rw [hsBk3]; decide)
  have eBk4_33 := (ev_ne Bk3 35 33 (.bool false) (by decide)).trans eBk3_33
  have eBk4_34 := (ev_ne Bk3 35 34 (.bool false) (by decide)).trans eBk3_34
  have eBk4_32 := (ev_ne Bk3 35 32 (.bool false) (by decide)).trans eBk3_32
  have eBk4_0 := (ev_ne Bk3 35 0 (.bool false) (by decide)).trans eBk3_0
  have eBk4_3 := (ev_ne Bk3 35 3 (.bool false) (by decide)).trans eBk3_3
  have eBk4_4 := (ev_ne Bk3 35 4 (.bool false) (by decide)).trans eBk3_4
  have eBk4_5 := (ev_ne Bk3 35 5 (.bool false) (by decide)).trans eBk3_5
  have eBk4_6 := (ev_ne Bk3 35 6 (.bool false) (by decide)).trans eBk3_6
  have eBk4_7 := (ev_ne Bk3 35 7 (.bool false) (by decide)).trans eBk3_7
  have eBk4_8 := (ev_ne Bk3 35 8 (.bool false) (by decide)).trans eBk3_8
  have eBk4_9 := (ev_ne Bk3 35 9 (.bool false) (by decide)).trans eBk3_9
  generalize Bk3.put (some 35) (.bool false) = Bk4 at hsBk4 hdBk4 eBk4_35 eBk4_33 eBk4_34 eBk4_32 eBk4_0 eBk4_3 eBk4_4 eBk4_5 eBk4_6 eBk4_7 eBk4_8 eBk4_9 ⊢
  clear eBk3_33 eBk3_34 eBk3_32 eBk3_0 eBk3_3 eBk3_4 eBk3_5 eBk3_6 eBk3_7 eBk3_8 eBk3_9 hsBk3 hdBk3
  refine wpAny_take (i := 4) (fuel := 19) (oi := { dst := some 36, op := Op.move (Operand.tmp 35), type := 4, pos := "law.go:42", after := #[{ on := 3, ground := Ground.data }, { on := 1, ground := Ground.chain }], guard := none }) (v := .bool false) rfl (by kernel_rfl) (by kernel_rfl) (by kernel_rfl) (fun c a w h => hQp c a _ _ w h) (Or.inl ⟨rfl, fun w => ?_⟩) ?_
  · exact congrArg (fun v => Result.ok (Next.value v) w) eBk4_35
  change wpAny _ _ ops9t Q 19 _ (Bk4.put (some 36) (.bool false)) w1
  have hsBk5 : (Bk4.put (some 36) (.bool false)).tmps.size = 104 := by rw [put_size, hsBk4]
  have hdBk5 : (Bk4.put (some 36) (.bool false)).defers = a.defers := hdBk4
  have eBk5_36 := ev_same Bk4 36 (.bool false) (by rw [hsBk4]; decide)
  have eBk5_35 := (ev_ne Bk4 36 35 (.bool false) (by decide)).trans eBk4_35
  have eBk5_33 := (ev_ne Bk4 36 33 (.bool false) (by decide)).trans eBk4_33
  have eBk5_34 := (ev_ne Bk4 36 34 (.bool false) (by decide)).trans eBk4_34
  have eBk5_32 := (ev_ne Bk4 36 32 (.bool false) (by decide)).trans eBk4_32
  have eBk5_0 := (ev_ne Bk4 36 0 (.bool false) (by decide)).trans eBk4_0
  have eBk5_3 := (ev_ne Bk4 36 3 (.bool false) (by decide)).trans eBk4_3
  have eBk5_4 := (ev_ne Bk4 36 4 (.bool false) (by decide)).trans eBk4_4
  have eBk5_5 := (ev_ne Bk4 36 5 (.bool false) (by decide)).trans eBk4_5
  have eBk5_6 := (ev_ne Bk4 36 6 (.bool false) (by decide)).trans eBk4_6
  have eBk5_7 := (ev_ne Bk4 36 7 (.bool false) (by decide)).trans eBk4_7
  have eBk5_8 := (ev_ne Bk4 36 8 (.bool false) (by decide)).trans eBk4_8
  have eBk5_9 := (ev_ne Bk4 36 9 (.bool false) (by decide)).trans eBk4_9
  generalize Bk4.put (some 36) (.bool false) = Bk5 at hsBk5 hdBk5 eBk5_36 eBk5_35 eBk5_33 eBk5_34 eBk5_32 eBk5_0 eBk5_3 eBk5_4 eBk5_5 eBk5_6 eBk5_7 eBk5_8 eBk5_9 ⊢
  clear eBk4_35 eBk4_33 eBk4_34 eBk4_32 eBk4_0 eBk4_3 eBk4_4 eBk4_5 eBk4_6 eBk4_7 eBk4_8 eBk4_9 hsBk4 hdBk4
  refine wpAny_take (i := 5) (fuel := 18) (oi := { dst := some 37, op := Op.move (Operand.tmp 5), type := 31, pos := "law.go:42", after := #[{ on := 4, ground := Ground.guard }], guard := some (4, false) }) (v := errV R) rfl (by kernel_rfl) (by kernel_rfl) (by kernel_rfl) (fun c a w h => hQp c a _ _ w h) (Or.inl ⟨(wanted_at (d := 36) rfl rfl eBk5_36 (by rw [hsBk5]; decide)), fun w => ?_⟩) ?_
  · exact congrArg (fun v => Result.ok (Next.value v) w) eBk5_5
  change wpAny _ _ ops9t Q 18 _ (Bk5.put (some 37) (errV R)) w1
  have hsBk6 : (Bk5.put (some 37) (errV R)).tmps.size = 104 := by rw [put_size, hsBk5]
  have hdBk6 : (Bk5.put (some 37) (errV R)).defers = a.defers := hdBk5
  have eBk6_37 := ev_same Bk5 37 (errV R) (by rw [hsBk5]; decide)
  have eBk6_36 := (ev_ne Bk5 37 36 (errV R) (by decide)).trans eBk5_36
  have eBk6_35 := (ev_ne Bk5 37 35 (errV R) (by decide)).trans eBk5_35
  have eBk6_33 := (ev_ne Bk5 37 33 (errV R) (by decide)).trans eBk5_33
  have eBk6_34 := (ev_ne Bk5 37 34 (errV R) (by decide)).trans eBk5_34
  have eBk6_32 := (ev_ne Bk5 37 32 (errV R) (by decide)).trans eBk5_32
  have eBk6_0 := (ev_ne Bk5 37 0 (errV R) (by decide)).trans eBk5_0
  have eBk6_3 := (ev_ne Bk5 37 3 (errV R) (by decide)).trans eBk5_3
  have eBk6_4 := (ev_ne Bk5 37 4 (errV R) (by decide)).trans eBk5_4
  have eBk6_5 := (ev_ne Bk5 37 5 (errV R) (by decide)).trans eBk5_5
  have eBk6_6 := (ev_ne Bk5 37 6 (errV R) (by decide)).trans eBk5_6
  have eBk6_7 := (ev_ne Bk5 37 7 (errV R) (by decide)).trans eBk5_7
  have eBk6_8 := (ev_ne Bk5 37 8 (errV R) (by decide)).trans eBk5_8
  have eBk6_9 := (ev_ne Bk5 37 9 (errV R) (by decide)).trans eBk5_9
  generalize Bk5.put (some 37) (errV R) = Bk6 at hsBk6 hdBk6 eBk6_37 eBk6_36 eBk6_35 eBk6_33 eBk6_34 eBk6_32 eBk6_0 eBk6_3 eBk6_4 eBk6_5 eBk6_6 eBk6_7 eBk6_8 eBk6_9 ⊢
  clear eBk5_36 eBk5_35 eBk5_33 eBk5_34 eBk5_32 eBk5_0 eBk5_3 eBk5_4 eBk5_5 eBk5_6 eBk5_7 eBk5_8 eBk5_9 hsBk5 hdBk5
  refine wpAny_take (i := 6) (fuel := 17) (oi := { dst := some 38, op := Op.binOp BinOp.eql 31 (Operand.tmp 37) (Operand.const Value.nilIface) 31, type := 4, pos := "law.go:42", after := #[{ on := 5, ground := Ground.data }, { on := 4, ground := Ground.guard }], guard := some (4, false) }) (v := .bool R) rfl (by kernel_rfl) (by kernel_rfl) (by kernel_rfl) (fun c a w h => hQp c a _ _ w h) (Or.inl ⟨(wanted_at (d := 36) rfl rfl eBk6_36 (by rw [hsBk6]; decide)), fun w => ?_⟩) ?_
  · have e1 := eBk6_37
    exact run_isnil _ _ _ rfl R e1 w
  change wpAny _ _ ops9t Q 17 _ (Bk6.put (some 38) (.bool R)) w1
  have hsBk7 : (Bk6.put (some 38) (.bool R)).tmps.size = 104 := by rw [put_size, hsBk6]
  have hdBk7 : (Bk6.put (some 38) (.bool R)).defers = a.defers := hdBk6
  have eBk7_38 := ev_same Bk6 38 (.bool R) (by rw [hsBk6]; decide)
  have eBk7_37 := (ev_ne Bk6 38 37 (.bool R) (by decide)).trans eBk6_37
  have eBk7_36 := (ev_ne Bk6 38 36 (.bool R) (by decide)).trans eBk6_36
  have eBk7_35 := (ev_ne Bk6 38 35 (.bool R) (by decide)).trans eBk6_35
  have eBk7_33 := (ev_ne Bk6 38 33 (.bool R) (by decide)).trans eBk6_33
  have eBk7_34 := (ev_ne Bk6 38 34 (.bool R) (by decide)).trans eBk6_34
  have eBk7_32 := (ev_ne Bk6 38 32 (.bool R) (by decide)).trans eBk6_32
  have eBk7_0 := (ev_ne Bk6 38 0 (.bool R) (by decide)).trans eBk6_0
  have eBk7_3 := (ev_ne Bk6 38 3 (.bool R) (by decide)).trans eBk6_3
  have eBk7_4 := (ev_ne Bk6 38 4 (.bool R) (by decide)).trans eBk6_4
  have eBk7_5 := (ev_ne Bk6 38 5 (.bool R) (by decide)).trans eBk6_5
  have eBk7_6 := (ev_ne Bk6 38 6 (.bool R) (by decide)).trans eBk6_6
  have eBk7_7 := (ev_ne Bk6 38 7 (.bool R) (by decide)).trans eBk6_7
  have eBk7_8 := (ev_ne Bk6 38 8 (.bool R) (by decide)).trans eBk6_8
  have eBk7_9 := (ev_ne Bk6 38 9 (.bool R) (by decide)).trans eBk6_9
  generalize Bk6.put (some 38) (.bool R) = Bk7 at hsBk7 hdBk7 eBk7_38 eBk7_37 eBk7_36 eBk7_35 eBk7_33 eBk7_34 eBk7_32 eBk7_0 eBk7_3 eBk7_4 eBk7_5 eBk7_6 eBk7_7 eBk7_8 eBk7_9 ⊢
  clear eBk6_37 eBk6_36 eBk6_35 eBk6_33 eBk6_34 eBk6_32 eBk6_0 eBk6_3 eBk6_4 eBk6_5 eBk6_6 eBk6_7 eBk6_8 eBk6_9 hsBk6 hdBk6
  refine wpAny_take (i := 7) (fuel := 16) (oi := { dst := some 39, op := Op.move (Operand.tmp 3), type := 4, pos := "law.go:42", after := #[{ on := 4, ground := Ground.guard }], guard := some (4, false) }) (v := .bool R) rfl (by kernel_rfl) (by kernel_rfl) (by kernel_rfl) (fun c a w h => hQp c a _ _ w h) (Or.inl ⟨(wanted_at (d := 36) rfl rfl eBk7_36 (by rw [hsBk7]; decide)), fun w => ?_⟩) ?_
  · exact congrArg (fun v => Result.ok (Next.value v) w) eBk7_3
  change wpAny _ _ ops9t Q 16 _ (Bk7.put (some 39) (.bool R)) w1
  have hsBk8 : (Bk7.put (some 39) (.bool R)).tmps.size = 104 := by rw [put_size, hsBk7]
  have hdBk8 : (Bk7.put (some 39) (.bool R)).defers = a.defers := hdBk7
  have eBk8_39 := ev_same Bk7 39 (.bool R) (by rw [hsBk7]; decide)
  have eBk8_38 := (ev_ne Bk7 39 38 (.bool R) (by decide)).trans eBk7_38
  have eBk8_37 := (ev_ne Bk7 39 37 (.bool R) (by decide)).trans eBk7_37
  have eBk8_36 := (ev_ne Bk7 39 36 (.bool R) (by decide)).trans eBk7_36
  have eBk8_35 := (ev_ne Bk7 39 35 (.bool R) (by decide)).trans eBk7_35
  have eBk8_33 := (ev_ne Bk7 39 33 (.bool R) (by decide)).trans eBk7_33
  have eBk8_34 := (ev_ne Bk7 39 34 (.bool R) (by decide)).trans eBk7_34
  have eBk8_32 := (ev_ne Bk7 39 32 (.bool R) (by decide)).trans eBk7_32
  have eBk8_0 := (ev_ne Bk7 39 0 (.bool R) (by decide)).trans eBk7_0
  have eBk8_3 := (ev_ne Bk7 39 3 (.bool R) (by decide)).trans eBk7_3
  have eBk8_4 := (ev_ne Bk7 39 4 (.bool R) (by decide)).trans eBk7_4
  have eBk8_5 := (ev_ne Bk7 39 5 (.bool R) (by decide)).trans eBk7_5
  have eBk8_6 := (ev_ne Bk7 39 6 (.bool R) (by decide)).trans eBk7_6
  have eBk8_7 := (ev_ne Bk7 39 7 (.bool R) (by decide)).trans eBk7_7
  have eBk8_8 := (ev_ne Bk7 39 8 (.bool R) (by decide)).trans eBk7_8
  have eBk8_9 := (ev_ne Bk7 39 9 (.bool R) (by decide)).trans eBk7_9
  generalize Bk7.put (some 39) (.bool R) = Bk8 at hsBk8 hdBk8 eBk8_39 eBk8_38 eBk8_37 eBk8_36 eBk8_35 eBk8_33 eBk8_34 eBk8_32 eBk8_0 eBk8_3 eBk8_4 eBk8_5 eBk8_6 eBk8_7 eBk8_8 eBk8_9 ⊢
  clear eBk7_38 eBk7_37 eBk7_36 eBk7_35 eBk7_33 eBk7_34 eBk7_32 eBk7_0 eBk7_3 eBk7_4 eBk7_5 eBk7_6 eBk7_7 eBk7_8 eBk7_9 hsBk7 hdBk7
  refine wpAny_take (i := 8) (fuel := 15) (oi := { dst := some 40, op := Op.binOp BinOp.neq 4 (Operand.tmp 38) (Operand.tmp 39) 4, type := 4, pos := "law.go:42", after := #[{ on := 6, ground := Ground.data }, { on := 7, ground := Ground.data }, { on := 4, ground := Ground.guard }], guard := some (4, false) }) (v := .bool false) rfl (by kernel_rfl) (by kernel_rfl) (by kernel_rfl) (fun c a w h => hQp c a _ _ w h) (Or.inl ⟨(wanted_at (d := 36) rfl rfl eBk8_36 (by rw [hsBk8]; decide)), fun w => ?_⟩) ?_
  · have e1 := eBk8_38
    have e2 := eBk8_39
    exact run_neqb _ _ _ _ rfl R e1 e2 w
  change wpAny _ _ ops9t Q 15 _ (Bk8.put (some 40) (.bool false)) w1
  have hsBk9 : (Bk8.put (some 40) (.bool false)).tmps.size = 104 := by rw [put_size, hsBk8]
  have hdBk9 : (Bk8.put (some 40) (.bool false)).defers = a.defers := hdBk8
  have eBk9_40 := ev_same Bk8 40 (.bool false) (by rw [hsBk8]; decide)
  have eBk9_39 := (ev_ne Bk8 40 39 (.bool false) (by decide)).trans eBk8_39
  have eBk9_38 := (ev_ne Bk8 40 38 (.bool false) (by decide)).trans eBk8_38
  have eBk9_37 := (ev_ne Bk8 40 37 (.bool false) (by decide)).trans eBk8_37
  have eBk9_36 := (ev_ne Bk8 40 36 (.bool false) (by decide)).trans eBk8_36
  have eBk9_35 := (ev_ne Bk8 40 35 (.bool false) (by decide)).trans eBk8_35
  have eBk9_33 := (ev_ne Bk8 40 33 (.bool false) (by decide)).trans eBk8_33
  have eBk9_34 := (ev_ne Bk8 40 34 (.bool false) (by decide)).trans eBk8_34
  have eBk9_32 := (ev_ne Bk8 40 32 (.bool false) (by decide)).trans eBk8_32
  have eBk9_0 := (ev_ne Bk8 40 0 (.bool false) (by decide)).trans eBk8_0
  have eBk9_3 := (ev_ne Bk8 40 3 (.bool false) (by decide)).trans eBk8_3
  have eBk9_4 := (ev_ne Bk8 40 4 (.bool false) (by decide)).trans eBk8_4
  have eBk9_5 := (ev_ne Bk8 40 5 (.bool false) (by decide)).trans eBk8_5
  have eBk9_6 := (ev_ne Bk8 40 6 (.bool false) (by decide)).trans eBk8_6
  have eBk9_7 := (ev_ne Bk8 40 7 (.bool false) (by decide)).trans eBk8_7
  have eBk9_8 := (ev_ne Bk8 40 8 (.bool false) (by decide)).trans eBk8_8
  have eBk9_9 := (ev_ne Bk8 40 9 (.bool false) (by decide)).trans eBk8_9
  generalize Bk8.put (some 40) (.bool false) = Bk9 at hsBk9 hdBk9 eBk9_40 eBk9_39 eBk9_38 eBk9_37 eBk9_36 eBk9_35 eBk9_33 eBk9_34 eBk9_32 eBk9_0 eBk9_3 eBk9_4 eBk9_5 eBk9_6 eBk9_7 eBk9_8 eBk9_9 ⊢
  clear eBk8_39 eBk8_38 eBk8_37 eBk8_36 eBk8_35 eBk8_33 eBk8_34 eBk8_32 eBk8_0 eBk8_3 eBk8_4 eBk8_5 eBk8_6 eBk8_7 eBk8_8 eBk8_9 hsBk8 hdBk8
  refine wpAny_take (i := 9) (fuel := 14) (oi := { dst := some 41, op := Op.pick (Operand.tmp 36) (Operand.const (Value.bool true)) (Operand.tmp 40), type := 4, pos := "law.go:42", after := #[{ on := 4, ground := Ground.data }, { on := 8, ground := Ground.data }], guard := none }) (v := .bool false) rfl (by kernel_rfl) (by kernel_rfl) (by kernel_rfl) (fun c a w h => hQp c a _ _ w h) (Or.inl ⟨rfl, fun w => ?_⟩) ?_
  · have e1 := eBk9_36
    have e2 := eBk9_40
    exact run_pickf _ _ _ _ _ rfl e1 e2 w
  change wpAny _ _ ops9t Q 14 _ (Bk9.put (some 41) (.bool false)) w1
  have hsBk10 : (Bk9.put (some 41) (.bool false)).tmps.size = 104 := by rw [put_size, hsBk9]
  have hdBk10 : (Bk9.put (some 41) (.bool false)).defers = a.defers := hdBk9
  have eBk10_41 := ev_same Bk9 41 (.bool false) (by rw [hsBk9]; decide)
  have eBk10_40 := (ev_ne Bk9 41 40 (.bool false) (by decide)).trans eBk9_40
  have eBk10_39 := (ev_ne Bk9 41 39 (.bool false) (by decide)).trans eBk9_39
  have eBk10_38 := (ev_ne Bk9 41 38 (.bool false) (by decide)).trans eBk9_38
  have eBk10_37 := (ev_ne Bk9 41 37 (.bool false) (by decide)).trans eBk9_37
  have eBk10_36 := (ev_ne Bk9 41 36 (.bool false) (by decide)).trans eBk9_36
  have eBk10_35 := (ev_ne Bk9 41 35 (.bool false) (by decide)).trans eBk9_35
  have eBk10_33 := (ev_ne Bk9 41 33 (.bool false) (by decide)).trans eBk9_33
  have eBk10_34 := (ev_ne Bk9 41 34 (.bool false) (by decide)).trans eBk9_34
  have eBk10_32 := (ev_ne Bk9 41 32 (.bool false) (by decide)).trans eBk9_32
  have eBk10_0 := (ev_ne Bk9 41 0 (.bool false) (by decide)).trans eBk9_0
  have eBk10_3 := (ev_ne Bk9 41 3 (.bool false) (by decide)).trans eBk9_3
  have eBk10_4 := (ev_ne Bk9 41 4 (.bool false) (by decide)).trans eBk9_4
  have eBk10_5 := (ev_ne Bk9 41 5 (.bool false) (by decide)).trans eBk9_5
  have eBk10_6 := (ev_ne Bk9 41 6 (.bool false) (by decide)).trans eBk9_6
  have eBk10_7 := (ev_ne Bk9 41 7 (.bool false) (by decide)).trans eBk9_7
  have eBk10_8 := (ev_ne Bk9 41 8 (.bool false) (by decide)).trans eBk9_8
  have eBk10_9 := (ev_ne Bk9 41 9 (.bool false) (by decide)).trans eBk9_9
  generalize Bk9.put (some 41) (.bool false) = Bk10 at hsBk10 hdBk10 eBk10_41 eBk10_40 eBk10_39 eBk10_38 eBk10_37 eBk10_36 eBk10_35 eBk10_33 eBk10_34 eBk10_32 eBk10_0 eBk10_3 eBk10_4 eBk10_5 eBk10_6 eBk10_7 eBk10_8 eBk10_9 ⊢
  clear eBk9_40 eBk9_39 eBk9_38 eBk9_37 eBk9_36 eBk9_35 eBk9_33 eBk9_34 eBk9_32 eBk9_0 eBk9_3 eBk9_4 eBk9_5 eBk9_6 eBk9_7 eBk9_8 eBk9_9 hsBk9 hdBk9
  refine wpAny_take (i := 10) (fuel := 13) (oi := { dst := some 42, op := Op.move (Operand.tmp 41), type := 4, pos := "law.go:42", after := #[{ on := 9, ground := Ground.data }, { on := 4, ground := Ground.chain }], guard := none }) (v := .bool false) rfl (by kernel_rfl) (by kernel_rfl) (by kernel_rfl) (fun c a w h => hQp c a _ _ w h) (Or.inl ⟨rfl, fun w => ?_⟩) ?_
  · exact congrArg (fun v => Result.ok (Next.value v) w) eBk10_41
  change wpAny _ _ ops9t Q 13 _ (Bk10.put (some 42) (.bool false)) w1
  have hsBk11 : (Bk10.put (some 42) (.bool false)).tmps.size = 104 := by rw [put_size, hsBk10]
  have hdBk11 : (Bk10.put (some 42) (.bool false)).defers = a.defers := hdBk10
  have eBk11_42 := ev_same Bk10 42 (.bool false) (by rw [hsBk10]; decide)
  have eBk11_41 := (ev_ne Bk10 42 41 (.bool false) (by decide)).trans eBk10_41
  have eBk11_40 := (ev_ne Bk10 42 40 (.bool false) (by decide)).trans eBk10_40
  have eBk11_39 := (ev_ne Bk10 42 39 (.bool false) (by decide)).trans eBk10_39
  have eBk11_38 := (ev_ne Bk10 42 38 (.bool false) (by decide)).trans eBk10_38
  have eBk11_37 := (ev_ne Bk10 42 37 (.bool false) (by decide)).trans eBk10_37
  have eBk11_36 := (ev_ne Bk10 42 36 (.bool false) (by decide)).trans eBk10_36
  have eBk11_35 := (ev_ne Bk10 42 35 (.bool false) (by decide)).trans eBk10_35
  have eBk11_33 := (ev_ne Bk10 42 33 (.bool false) (by decide)).trans eBk10_33
  have eBk11_34 := (ev_ne Bk10 42 34 (.bool false) (by decide)).trans eBk10_34
  have eBk11_32 := (ev_ne Bk10 42 32 (.bool false) (by decide)).trans eBk10_32
  have eBk11_0 := (ev_ne Bk10 42 0 (.bool false) (by decide)).trans eBk10_0
  have eBk11_3 := (ev_ne Bk10 42 3 (.bool false) (by decide)).trans eBk10_3
  have eBk11_4 := (ev_ne Bk10 42 4 (.bool false) (by decide)).trans eBk10_4
  have eBk11_5 := (ev_ne Bk10 42 5 (.bool false) (by decide)).trans eBk10_5
  have eBk11_6 := (ev_ne Bk10 42 6 (.bool false) (by decide)).trans eBk10_6
  have eBk11_7 := (ev_ne Bk10 42 7 (.bool false) (by decide)).trans eBk10_7
  have eBk11_8 := (ev_ne Bk10 42 8 (.bool false) (by decide)).trans eBk10_8
  have eBk11_9 := (ev_ne Bk10 42 9 (.bool false) (by decide)).trans eBk10_9
  generalize Bk10.put (some 42) (.bool false) = Bk11 at hsBk11 hdBk11 eBk11_42 eBk11_41 eBk11_40 eBk11_39 eBk11_38 eBk11_37 eBk11_36 eBk11_35 eBk11_33 eBk11_34 eBk11_32 eBk11_0 eBk11_3 eBk11_4 eBk11_5 eBk11_6 eBk11_7 eBk11_8 eBk11_9 ⊢
  clear eBk10_41 eBk10_40 eBk10_39 eBk10_38 eBk10_37 eBk10_36 eBk10_35 eBk10_33 eBk10_34 eBk10_32 eBk10_0 eBk10_3 eBk10_4 eBk10_5 eBk10_6 eBk10_7 eBk10_8 eBk10_9 hsBk10 hdBk10
  refine wpAny_take (i := 11) (fuel := 12) (oi := { dst := some 43, op := Op.move (Operand.tmp 7), type := 31, pos := "law.go:42", after := #[{ on := 10, ground := Ground.guard }], guard := some (10, false) }) (v := errV R) rfl (by kernel_rfl) (by kernel_rfl) (by kernel_rfl) (fun c a w h => hQp c a _ _ w h) (Or.inl ⟨(wanted_at (d := 42) rfl rfl eBk11_42 (by rw [hsBk11]; decide)), fun w => ?_⟩) ?_
  · exact congrArg (fun v => Result.ok (Next.value v) w) eBk11_7
  change wpAny _ _ ops9t Q 12 _ (Bk11.put (some 43) (errV R)) w1
  have hsBk12 : (Bk11.put (some 43) (errV R)).tmps.size = 104 := by rw [put_size, hsBk11]
  have hdBk12 : (Bk11.put (some 43) (errV R)).defers = a.defers := hdBk11
  have eBk12_43 := ev_same Bk11 43 (errV R) (by rw [hsBk11]; decide)
  have eBk12_42 := (ev_ne Bk11 43 42 (errV R) (by decide)).trans eBk11_42
  have eBk12_41 := (ev_ne Bk11 43 41 (errV R) (by decide)).trans eBk11_41
  have eBk12_40 := (ev_ne Bk11 43 40 (errV R) (by decide)).trans eBk11_40
  have eBk12_39 := (ev_ne Bk11 43 39 (errV R) (by decide)).trans eBk11_39
  have eBk12_38 := (ev_ne Bk11 43 38 (errV R) (by decide)).trans eBk11_38
  have eBk12_37 := (ev_ne Bk11 43 37 (errV R) (by decide)).trans eBk11_37
  have eBk12_36 := (ev_ne Bk11 43 36 (errV R) (by decide)).trans eBk11_36
  have eBk12_35 := (ev_ne Bk11 43 35 (errV R) (by decide)).trans eBk11_35
  have eBk12_33 := (ev_ne Bk11 43 33 (errV R) (by decide)).trans eBk11_33
  have eBk12_34 := (ev_ne Bk11 43 34 (errV R) (by decide)).trans eBk11_34
  have eBk12_32 := (ev_ne Bk11 43 32 (errV R) (by decide)).trans eBk11_32
  have eBk12_0 := (ev_ne Bk11 43 0 (errV R) (by decide)).trans eBk11_0
  have eBk12_3 := (ev_ne Bk11 43 3 (errV R) (by decide)).trans eBk11_3
  have eBk12_4 := (ev_ne Bk11 43 4 (errV R) (by decide)).trans eBk11_4
  have eBk12_5 := (ev_ne Bk11 43 5 (errV R) (by decide)).trans eBk11_5
  have eBk12_6 := (ev_ne Bk11 43 6 (errV R) (by decide)).trans eBk11_6
  have eBk12_7 := (ev_ne Bk11 43 7 (errV R) (by decide)).trans eBk11_7
  have eBk12_8 := (ev_ne Bk11 43 8 (errV R) (by decide)).trans eBk11_8
  have eBk12_9 := (ev_ne Bk11 43 9 (errV R) (by decide)).trans eBk11_9
  generalize Bk11.put (some 43) (errV R) = Bk12 at hsBk12 hdBk12 eBk12_43 eBk12_42 eBk12_41 eBk12_40 eBk12_39 eBk12_38 eBk12_37 eBk12_36 eBk12_35 eBk12_33 eBk12_34 eBk12_32 eBk12_0 eBk12_3 eBk12_4 eBk12_5 eBk12_6 eBk12_7 eBk12_8 eBk12_9 ⊢
  clear eBk11_42 eBk11_41 eBk11_40 eBk11_39 eBk11_38 eBk11_37 eBk11_36 eBk11_35 eBk11_33 eBk11_34 eBk11_32 eBk11_0 eBk11_3 eBk11_4 eBk11_5 eBk11_6 eBk11_7 eBk11_8 eBk11_9 hsBk11 hdBk11
  refine wpAny_take (i := 12) (fuel := 11) (oi := { dst := some 44, op := Op.binOp BinOp.eql 31 (Operand.tmp 43) (Operand.const Value.nilIface) 31, type := 4, pos := "law.go:42", after := #[{ on := 11, ground := Ground.data }, { on := 10, ground := Ground.guard }], guard := some (10, false) }) (v := .bool R) rfl (by kernel_rfl) (by kernel_rfl) (by kernel_rfl) (fun c a w h => hQp c a _ _ w h) (Or.inl ⟨(wanted_at (d := 42) rfl rfl eBk12_42 (by rw [hsBk12]; decide)), fun w => ?_⟩) ?_
  · have e1 := eBk12_43
    exact run_isnil _ _ _ rfl R e1 w
  change wpAny _ _ ops9t Q 11 _ (Bk12.put (some 44) (.bool R)) w1
  have hsBk13 : (Bk12.put (some 44) (.bool R)).tmps.size = 104 := by rw [put_size, hsBk12]
  have hdBk13 : (Bk12.put (some 44) (.bool R)).defers = a.defers := hdBk12
  have eBk13_44 := ev_same Bk12 44 (.bool R) (by rw [hsBk12]; decide)
  have eBk13_43 := (ev_ne Bk12 44 43 (.bool R) (by decide)).trans eBk12_43
  have eBk13_42 := (ev_ne Bk12 44 42 (.bool R) (by decide)).trans eBk12_42
  have eBk13_41 := (ev_ne Bk12 44 41 (.bool R) (by decide)).trans eBk12_41
  have eBk13_40 := (ev_ne Bk12 44 40 (.bool R) (by decide)).trans eBk12_40
  have eBk13_39 := (ev_ne Bk12 44 39 (.bool R) (by decide)).trans eBk12_39
  have eBk13_38 := (ev_ne Bk12 44 38 (.bool R) (by decide)).trans eBk12_38
  have eBk13_37 := (ev_ne Bk12 44 37 (.bool R) (by decide)).trans eBk12_37
  have eBk13_36 := (ev_ne Bk12 44 36 (.bool R) (by decide)).trans eBk12_36
  have eBk13_35 := (ev_ne Bk12 44 35 (.bool R) (by decide)).trans eBk12_35
  have eBk13_33 := (ev_ne Bk12 44 33 (.bool R) (by decide)).trans eBk12_33
  have eBk13_34 := (ev_ne Bk12 44 34 (.bool R) (by decide)).trans eBk12_34
  have eBk13_32 := (ev_ne Bk12 44 32 (.bool R) (by decide)).trans eBk12_32
  have eBk13_0 := (ev_ne Bk12 44 0 (.bool R) (by decide)).trans eBk12_0
  have eBk13_3 := (ev_ne Bk12 44 3 (.bool R) (by decide)).trans eBk12_3
  have eBk13_4 := (ev_ne Bk12 44 4 (.bool R) (by decide)).trans eBk12_4
  have eBk13_5 := (ev_ne Bk12 44 5 (.bool R) (by decide)).trans eBk12_5
  have eBk13_6 := (ev_ne Bk12 44 6 (.bool R) (by decide)).trans eBk12_6
  have eBk13_7 := (ev_ne Bk12 44 7 (.bool R) (by decide)).trans eBk12_7
  have eBk13_8 := (ev_ne Bk12 44 8 (.bool R) (by decide)).trans eBk12_8
  have eBk13_9 := (ev_ne Bk12 44 9 (.bool R) (by decide)).trans eBk12_9
  generalize Bk12.put (some 44) (.bool R) = Bk13 at hsBk13 hdBk13 eBk13_44 eBk13_43 eBk13_42 eBk13_41 eBk13_40 eBk13_39 eBk13_38 eBk13_37 eBk13_36 eBk13_35 eBk13_33 eBk13_34 eBk13_32 eBk13_0 eBk13_3 eBk13_4 eBk13_5 eBk13_6 eBk13_7 eBk13_8 eBk13_9 ⊢
  clear eBk12_43 eBk12_42 eBk12_41 eBk12_40 eBk12_39 eBk12_38 eBk12_37 eBk12_36 eBk12_35 eBk12_33 eBk12_34 eBk12_32 eBk12_0 eBk12_3 eBk12_4 eBk12_5 eBk12_6 eBk12_7 eBk12_8 eBk12_9 hsBk12 hdBk12
  refine wpAny_take (i := 13) (fuel := 10) (oi := { dst := some 45, op := Op.move (Operand.tmp 3), type := 4, pos := "law.go:42", after := #[{ on := 10, ground := Ground.guard }], guard := some (10, false) }) (v := .bool R) rfl (by kernel_rfl) (by kernel_rfl) (by kernel_rfl) (fun c a w h => hQp c a _ _ w h) (Or.inl ⟨(wanted_at (d := 42) rfl rfl eBk13_42 (by rw [hsBk13]; decide)), fun w => ?_⟩) ?_
  · exact congrArg (fun v => Result.ok (Next.value v) w) eBk13_3
  change wpAny _ _ ops9t Q 10 _ (Bk13.put (some 45) (.bool R)) w1
  have hsBk14 : (Bk13.put (some 45) (.bool R)).tmps.size = 104 := by rw [put_size, hsBk13]
  have hdBk14 : (Bk13.put (some 45) (.bool R)).defers = a.defers := hdBk13
  have eBk14_45 := ev_same Bk13 45 (.bool R) (by rw [hsBk13]; decide)
  have eBk14_44 := (ev_ne Bk13 45 44 (.bool R) (by decide)).trans eBk13_44
  have eBk14_43 := (ev_ne Bk13 45 43 (.bool R) (by decide)).trans eBk13_43
  have eBk14_42 := (ev_ne Bk13 45 42 (.bool R) (by decide)).trans eBk13_42
  have eBk14_41 := (ev_ne Bk13 45 41 (.bool R) (by decide)).trans eBk13_41
  have eBk14_40 := (ev_ne Bk13 45 40 (.bool R) (by decide)).trans eBk13_40
  have eBk14_39 := (ev_ne Bk13 45 39 (.bool R) (by decide)).trans eBk13_39
  have eBk14_38 := (ev_ne Bk13 45 38 (.bool R) (by decide)).trans eBk13_38
  have eBk14_37 := (ev_ne Bk13 45 37 (.bool R) (by decide)).trans eBk13_37
  have eBk14_36 := (ev_ne Bk13 45 36 (.bool R) (by decide)).trans eBk13_36
  have eBk14_35 := (ev_ne Bk13 45 35 (.bool R) (by decide)).trans eBk13_35
  have eBk14_33 := (ev_ne Bk13 45 33 (.bool R) (by decide)).trans eBk13_33
  have eBk14_34 := (ev_ne Bk13 45 34 (.bool R) (by decide)).trans eBk13_34
  have eBk14_32 := (ev_ne Bk13 45 32 (.bool R) (by decide)).trans eBk13_32
  have eBk14_0 := (ev_ne Bk13 45 0 (.bool R) (by decide)).trans eBk13_0
  have eBk14_3 := (ev_ne Bk13 45 3 (.bool R) (by decide)).trans eBk13_3
  have eBk14_4 := (ev_ne Bk13 45 4 (.bool R) (by decide)).trans eBk13_4
  have eBk14_5 := (ev_ne Bk13 45 5 (.bool R) (by decide)).trans eBk13_5
  have eBk14_6 := (ev_ne Bk13 45 6 (.bool R) (by decide)).trans eBk13_6
  have eBk14_7 := (ev_ne Bk13 45 7 (.bool R) (by decide)).trans eBk13_7
  have eBk14_8 := (ev_ne Bk13 45 8 (.bool R) (by decide)).trans eBk13_8
  have eBk14_9 := (ev_ne Bk13 45 9 (.bool R) (by decide)).trans eBk13_9
  generalize Bk13.put (some 45) (.bool R) = Bk14 at hsBk14 hdBk14 eBk14_45 eBk14_44 eBk14_43 eBk14_42 eBk14_41 eBk14_40 eBk14_39 eBk14_38 eBk14_37 eBk14_36 eBk14_35 eBk14_33 eBk14_34 eBk14_32 eBk14_0 eBk14_3 eBk14_4 eBk14_5 eBk14_6 eBk14_7 eBk14_8 eBk14_9 ⊢
  clear eBk13_44 eBk13_43 eBk13_42 eBk13_41 eBk13_40 eBk13_39 eBk13_38 eBk13_37 eBk13_36 eBk13_35 eBk13_33 eBk13_34 eBk13_32 eBk13_0 eBk13_3 eBk13_4 eBk13_5 eBk13_6 eBk13_7 eBk13_8 eBk13_9 hsBk13 hdBk13
  refine wpAny_take (i := 14) (fuel := 9) (oi := { dst := some 46, op := Op.binOp BinOp.neq 4 (Operand.tmp 44) (Operand.tmp 45) 4, type := 4, pos := "law.go:42", after := #[{ on := 12, ground := Ground.data }, { on := 13, ground := Ground.data }, { on := 10, ground := Ground.guard }], guard := some (10, false) }) (v := .bool false) rfl (by kernel_rfl) (by kernel_rfl) (by kernel_rfl) (fun c a w h => hQp c a _ _ w h) (Or.inl ⟨(wanted_at (d := 42) rfl rfl eBk14_42 (by rw [hsBk14]; decide)), fun w => ?_⟩) ?_
  · have e1 := eBk14_44
    have e2 := eBk14_45
    exact run_neqb _ _ _ _ rfl R e1 e2 w
  change wpAny _ _ ops9t Q 9 _ (Bk14.put (some 46) (.bool false)) w1
  have hsBk15 : (Bk14.put (some 46) (.bool false)).tmps.size = 104 := by rw [put_size, hsBk14]
  have hdBk15 : (Bk14.put (some 46) (.bool false)).defers = a.defers := hdBk14
  have eBk15_46 := ev_same Bk14 46 (.bool false) (by rw [hsBk14]; decide)
  have eBk15_45 := (ev_ne Bk14 46 45 (.bool false) (by decide)).trans eBk14_45
  have eBk15_44 := (ev_ne Bk14 46 44 (.bool false) (by decide)).trans eBk14_44
  have eBk15_43 := (ev_ne Bk14 46 43 (.bool false) (by decide)).trans eBk14_43
  have eBk15_42 := (ev_ne Bk14 46 42 (.bool false) (by decide)).trans eBk14_42
  have eBk15_41 := (ev_ne Bk14 46 41 (.bool false) (by decide)).trans eBk14_41
  have eBk15_40 := (ev_ne Bk14 46 40 (.bool false) (by decide)).trans eBk14_40
  have eBk15_39 := (ev_ne Bk14 46 39 (.bool false) (by decide)).trans eBk14_39
  have eBk15_38 := (ev_ne Bk14 46 38 (.bool false) (by decide)).trans eBk14_38
  have eBk15_37 := (ev_ne Bk14 46 37 (.bool false) (by decide)).trans eBk14_37
  have eBk15_36 := (ev_ne Bk14 46 36 (.bool false) (by decide)).trans eBk14_36
  have eBk15_35 := (ev_ne Bk14 46 35 (.bool false) (by decide)).trans eBk14_35
  have eBk15_33 := (ev_ne Bk14 46 33 (.bool false) (by decide)).trans eBk14_33
  have eBk15_34 := (ev_ne Bk14 46 34 (.bool false) (by decide)).trans eBk14_34
  have eBk15_32 := (ev_ne Bk14 46 32 (.bool false) (by decide)).trans eBk14_32
  have eBk15_0 := (ev_ne Bk14 46 0 (.bool false) (by decide)).trans eBk14_0
  have eBk15_3 := (ev_ne Bk14 46 3 (.bool false) (by decide)).trans eBk14_3
  have eBk15_4 := (ev_ne Bk14 46 4 (.bool false) (by decide)).trans eBk14_4
  have eBk15_5 := (ev_ne Bk14 46 5 (.bool false) (by decide)).trans eBk14_5
  have eBk15_6 := (ev_ne Bk14 46 6 (.bool false) (by decide)).trans eBk14_6
  have eBk15_7 := (ev_ne Bk14 46 7 (.bool false) (by decide)).trans eBk14_7
  have eBk15_8 := (ev_ne Bk14 46 8 (.bool false) (by decide)).trans eBk14_8
  have eBk15_9 := (ev_ne Bk14 46 9 (.bool false) (by decide)).trans eBk14_9
  generalize Bk14.put (some 46) (.bool false) = Bk15 at hsBk15 hdBk15 eBk15_46 eBk15_45 eBk15_44 eBk15_43 eBk15_42 eBk15_41 eBk15_40 eBk15_39 eBk15_38 eBk15_37 eBk15_36 eBk15_35 eBk15_33 eBk15_34 eBk15_32 eBk15_0 eBk15_3 eBk15_4 eBk15_5 eBk15_6 eBk15_7 eBk15_8 eBk15_9 ⊢
  clear eBk14_45 eBk14_44 eBk14_43 eBk14_42 eBk14_41 eBk14_40 eBk14_39 eBk14_38 eBk14_37 eBk14_36 eBk14_35 eBk14_33 eBk14_34 eBk14_32 eBk14_0 eBk14_3 eBk14_4 eBk14_5 eBk14_6 eBk14_7 eBk14_8 eBk14_9 hsBk14 hdBk14
  refine wpAny_take (i := 15) (fuel := 8) (oi := { dst := some 47, op := Op.pick (Operand.tmp 42) (Operand.const (Value.bool true)) (Operand.tmp 46), type := 4, pos := "law.go:42", after := #[{ on := 10, ground := Ground.data }, { on := 14, ground := Ground.data }], guard := none }) (v := .bool false) rfl (by kernel_rfl) (by kernel_rfl) (by kernel_rfl) (fun c a w h => hQp c a _ _ w h) (Or.inl ⟨rfl, fun w => ?_⟩) ?_
  · have e1 := eBk15_42
    have e2 := eBk15_46
    exact run_pickf _ _ _ _ _ rfl e1 e2 w
  change wpAny _ _ ops9t Q 8 _ (Bk15.put (some 47) (.bool false)) w1
  have hsBk16 : (Bk15.put (some 47) (.bool false)).tmps.size = 104 := by rw [put_size, hsBk15]
  have hdBk16 : (Bk15.put (some 47) (.bool false)).defers = a.defers := hdBk15
  have eBk16_47 := ev_same Bk15 47 (.bool false) (by rw [hsBk15]; decide)
  have eBk16_46 := (ev_ne Bk15 47 46 (.bool false) (by decide)).trans eBk15_46
  have eBk16_45 := (ev_ne Bk15 47 45 (.bool false) (by decide)).trans eBk15_45
  have eBk16_44 := (ev_ne Bk15 47 44 (.bool false) (by decide)).trans eBk15_44
  have eBk16_43 := (ev_ne Bk15 47 43 (.bool false) (by decide)).trans eBk15_43
  have eBk16_42 := (ev_ne Bk15 47 42 (.bool false) (by decide)).trans eBk15_42
  have eBk16_41 := (ev_ne Bk15 47 41 (.bool false) (by decide)).trans eBk15_41
  have eBk16_40 := (ev_ne Bk15 47 40 (.bool false) (by decide)).trans eBk15_40
  have eBk16_39 := (ev_ne Bk15 47 39 (.bool false) (by decide)).trans eBk15_39
  have eBk16_38 := (ev_ne Bk15 47 38 (.bool false) (by decide)).trans eBk15_38
  have eBk16_37 := (ev_ne Bk15 47 37 (.bool false) (by decide)).trans eBk15_37
  have eBk16_36 := (ev_ne Bk15 47 36 (.bool false) (by decide)).trans eBk15_36
  have eBk16_35 := (ev_ne Bk15 47 35 (.bool false) (by decide)).trans eBk15_35
  have eBk16_33 := (ev_ne Bk15 47 33 (.bool false) (by decide)).trans eBk15_33
  have eBk16_34 := (ev_ne Bk15 47 34 (.bool false) (by decide)).trans eBk15_34
  have eBk16_32 := (ev_ne Bk15 47 32 (.bool false) (by decide)).trans eBk15_32
  have eBk16_0 := (ev_ne Bk15 47 0 (.bool false) (by decide)).trans eBk15_0
  have eBk16_3 := (ev_ne Bk15 47 3 (.bool false) (by decide)).trans eBk15_3
  have eBk16_4 := (ev_ne Bk15 47 4 (.bool false) (by decide)).trans eBk15_4
  have eBk16_5 := (ev_ne Bk15 47 5 (.bool false) (by decide)).trans eBk15_5
  have eBk16_6 := (ev_ne Bk15 47 6 (.bool false) (by decide)).trans eBk15_6
  have eBk16_7 := (ev_ne Bk15 47 7 (.bool false) (by decide)).trans eBk15_7
  have eBk16_8 := (ev_ne Bk15 47 8 (.bool false) (by decide)).trans eBk15_8
  have eBk16_9 := (ev_ne Bk15 47 9 (.bool false) (by decide)).trans eBk15_9
  generalize Bk15.put (some 47) (.bool false) = Bk16 at hsBk16 hdBk16 eBk16_47 eBk16_46 eBk16_45 eBk16_44 eBk16_43 eBk16_42 eBk16_41 eBk16_40 eBk16_39 eBk16_38 eBk16_37 eBk16_36 eBk16_35 eBk16_33 eBk16_34 eBk16_32 eBk16_0 eBk16_3 eBk16_4 eBk16_5 eBk16_6 eBk16_7 eBk16_8 eBk16_9 ⊢
  clear eBk15_46 eBk15_45 eBk15_44 eBk15_43 eBk15_42 eBk15_41 eBk15_40 eBk15_39 eBk15_38 eBk15_37 eBk15_36 eBk15_35 eBk15_33 eBk15_34 eBk15_32 eBk15_0 eBk15_3 eBk15_4 eBk15_5 eBk15_6 eBk15_7 eBk15_8 eBk15_9 hsBk15 hdBk15
  refine wpAny_take (i := 16) (fuel := 7) (oi := { dst := some 48, op := Op.move (Operand.tmp 47), type := 4, pos := "law.go:42", after := #[{ on := 15, ground := Ground.data }, { on := 10, ground := Ground.chain }], guard := none }) (v := .bool false) rfl (by kernel_rfl) (by kernel_rfl) (by kernel_rfl) (fun c a w h => hQp c a _ _ w h) (Or.inl ⟨rfl, fun w => ?_⟩) ?_
  · exact congrArg (fun v => Result.ok (Next.value v) w) eBk16_47
  change wpAny _ _ ops9t Q 7 _ (Bk16.put (some 48) (.bool false)) w1
  have hsBk17 : (Bk16.put (some 48) (.bool false)).tmps.size = 104 := by rw [put_size, hsBk16]
  have hdBk17 : (Bk16.put (some 48) (.bool false)).defers = a.defers := hdBk16
  have eBk17_48 := ev_same Bk16 48 (.bool false) (by rw [hsBk16]; decide)
  have eBk17_47 := (ev_ne Bk16 48 47 (.bool false) (by decide)).trans eBk16_47
  have eBk17_46 := (ev_ne Bk16 48 46 (.bool false) (by decide)).trans eBk16_46
  have eBk17_45 := (ev_ne Bk16 48 45 (.bool false) (by decide)).trans eBk16_45
  have eBk17_44 := (ev_ne Bk16 48 44 (.bool false) (by decide)).trans eBk16_44
  have eBk17_43 := (ev_ne Bk16 48 43 (.bool false) (by decide)).trans eBk16_43
  have eBk17_42 := (ev_ne Bk16 48 42 (.bool false) (by decide)).trans eBk16_42
  have eBk17_41 := (ev_ne Bk16 48 41 (.bool false) (by decide)).trans eBk16_41
  have eBk17_40 := (ev_ne Bk16 48 40 (.bool false) (by decide)).trans eBk16_40
  have eBk17_39 := (ev_ne Bk16 48 39 (.bool false) (by decide)).trans eBk16_39
  have eBk17_38 := (ev_ne Bk16 48 38 (.bool false) (by decide)).trans eBk16_38
  have eBk17_37 := (ev_ne Bk16 48 37 (.bool false) (by decide)).trans eBk16_37
  have eBk17_36 := (ev_ne Bk16 48 36 (.bool false) (by decide)).trans eBk16_36
  have eBk17_35 := (ev_ne Bk16 48 35 (.bool false) (by decide)).trans eBk16_35
  have eBk17_33 := (ev_ne Bk16 48 33 (.bool false) (by decide)).trans eBk16_33
  have eBk17_34 := (ev_ne Bk16 48 34 (.bool false) (by decide)).trans eBk16_34
  have eBk17_32 := (ev_ne Bk16 48 32 (.bool false) (by decide)).trans eBk16_32
  have eBk17_0 := (ev_ne Bk16 48 0 (.bool false) (by decide)).trans eBk16_0
  have eBk17_3 := (ev_ne Bk16 48 3 (.bool false) (by decide)).trans eBk16_3
  have eBk17_4 := (ev_ne Bk16 48 4 (.bool false) (by decide)).trans eBk16_4
  have eBk17_5 := (ev_ne Bk16 48 5 (.bool false) (by decide)).trans eBk16_5
  have eBk17_6 := (ev_ne Bk16 48 6 (.bool false) (by decide)).trans eBk16_6
  have eBk17_7 := (ev_ne Bk16 48 7 (.bool false) (by decide)).trans eBk16_7
  have eBk17_8 := (ev_ne Bk16 48 8 (.bool false) (by decide)).trans eBk16_8
  have eBk17_9 := (ev_ne Bk16 48 9 (.bool false) (by decide)).trans eBk16_9
  generalize Bk16.put (some 48) (.bool false) = Bk17 at hsBk17 hdBk17 eBk17_48 eBk17_47 eBk17_46 eBk17_45 eBk17_44 eBk17_43 eBk17_42 eBk17_41 eBk17_40 eBk17_39 eBk17_38 eBk17_37 eBk17_36 eBk17_35 eBk17_33 eBk17_34 eBk17_32 eBk17_0 eBk17_3 eBk17_4 eBk17_5 eBk17_6 eBk17_7 eBk17_8 eBk17_9 ⊢
  clear eBk16_47 eBk16_46 eBk16_45 eBk16_44 eBk16_43 eBk16_42 eBk16_41 eBk16_40 eBk16_39 eBk16_38 eBk16_37 eBk16_36 eBk16_35 eBk16_33 eBk16_34 eBk16_32 eBk16_0 eBk16_3 eBk16_4 eBk16_5 eBk16_6 eBk16_7 eBk16_8 eBk16_9 hsBk16 hdBk16
  refine wpAny_take (i := 17) (fuel := 6) (oi := { dst := some 49, op := Op.move (Operand.tmp 9), type := 31, pos := "law.go:42", after := #[{ on := 16, ground := Ground.guard }], guard := some (16, false) }) (v := errV G) rfl (by kernel_rfl) (by kernel_rfl) (by kernel_rfl) (fun c a w h => hQp c a _ _ w h) (Or.inl ⟨(wanted_at (d := 48) rfl rfl eBk17_48 (by rw [hsBk17]; decide)), fun w => ?_⟩) ?_
  · exact congrArg (fun v => Result.ok (Next.value v) w) eBk17_9
  change wpAny _ _ ops9t Q 6 _ (Bk17.put (some 49) (errV G)) w1
  have hsBk18 : (Bk17.put (some 49) (errV G)).tmps.size = 104 := by rw [put_size, hsBk17]
  have hdBk18 : (Bk17.put (some 49) (errV G)).defers = a.defers := hdBk17
  have eBk18_49 := ev_same Bk17 49 (errV G) (by rw [hsBk17]; decide)
  have eBk18_48 := (ev_ne Bk17 49 48 (errV G) (by decide)).trans eBk17_48
  have eBk18_47 := (ev_ne Bk17 49 47 (errV G) (by decide)).trans eBk17_47
  have eBk18_46 := (ev_ne Bk17 49 46 (errV G) (by decide)).trans eBk17_46
  have eBk18_45 := (ev_ne Bk17 49 45 (errV G) (by decide)).trans eBk17_45
  have eBk18_44 := (ev_ne Bk17 49 44 (errV G) (by decide)).trans eBk17_44
  have eBk18_43 := (ev_ne Bk17 49 43 (errV G) (by decide)).trans eBk17_43
  have eBk18_42 := (ev_ne Bk17 49 42 (errV G) (by decide)).trans eBk17_42
  have eBk18_41 := (ev_ne Bk17 49 41 (errV G) (by decide)).trans eBk17_41
  have eBk18_40 := (ev_ne Bk17 49 40 (errV G) (by decide)).trans eBk17_40
  have eBk18_39 := (ev_ne Bk17 49 39 (errV G) (by decide)).trans eBk17_39
  have eBk18_38 := (ev_ne Bk17 49 38 (errV G) (by decide)).trans eBk17_38
  have eBk18_37 := (ev_ne Bk17 49 37 (errV G) (by decide)).trans eBk17_37
  have eBk18_36 := (ev_ne Bk17 49 36 (errV G) (by decide)).trans eBk17_36
  have eBk18_35 := (ev_ne Bk17 49 35 (errV G) (by decide)).trans eBk17_35
  have eBk18_33 := (ev_ne Bk17 49 33 (errV G) (by decide)).trans eBk17_33
  have eBk18_34 := (ev_ne Bk17 49 34 (errV G) (by decide)).trans eBk17_34
  have eBk18_32 := (ev_ne Bk17 49 32 (errV G) (by decide)).trans eBk17_32
  have eBk18_0 := (ev_ne Bk17 49 0 (errV G) (by decide)).trans eBk17_0
  have eBk18_3 := (ev_ne Bk17 49 3 (errV G) (by decide)).trans eBk17_3
  have eBk18_4 := (ev_ne Bk17 49 4 (errV G) (by decide)).trans eBk17_4
  have eBk18_5 := (ev_ne Bk17 49 5 (errV G) (by decide)).trans eBk17_5
  have eBk18_6 := (ev_ne Bk17 49 6 (errV G) (by decide)).trans eBk17_6
  have eBk18_7 := (ev_ne Bk17 49 7 (errV G) (by decide)).trans eBk17_7
  have eBk18_8 := (ev_ne Bk17 49 8 (errV G) (by decide)).trans eBk17_8
  have eBk18_9 := (ev_ne Bk17 49 9 (errV G) (by decide)).trans eBk17_9
  generalize Bk17.put (some 49) (errV G) = Bk18 at hsBk18 hdBk18 eBk18_49 eBk18_48 eBk18_47 eBk18_46 eBk18_45 eBk18_44 eBk18_43 eBk18_42 eBk18_41 eBk18_40 eBk18_39 eBk18_38 eBk18_37 eBk18_36 eBk18_35 eBk18_33 eBk18_34 eBk18_32 eBk18_0 eBk18_3 eBk18_4 eBk18_5 eBk18_6 eBk18_7 eBk18_8 eBk18_9 ⊢
  clear eBk17_48 eBk17_47 eBk17_46 eBk17_45 eBk17_44 eBk17_43 eBk17_42 eBk17_41 eBk17_40 eBk17_39 eBk17_38 eBk17_37 eBk17_36 eBk17_35 eBk17_33 eBk17_34 eBk17_32 eBk17_0 eBk17_3 eBk17_4 eBk17_5 eBk17_6 eBk17_7 eBk17_8 eBk17_9 hsBk17 hdBk17
  refine wpAny_take (i := 18) (fuel := 5) (oi := { dst := some 50, op := Op.binOp BinOp.eql 31 (Operand.tmp 49) (Operand.const Value.nilIface) 31, type := 4, pos := "law.go:42", after := #[{ on := 17, ground := Ground.data }, { on := 16, ground := Ground.guard }], guard := some (16, false) }) (v := .bool G) rfl (by kernel_rfl) (by kernel_rfl) (by kernel_rfl) (fun c a w h => hQp c a _ _ w h) (Or.inl ⟨(wanted_at (d := 48) rfl rfl eBk18_48 (by rw [hsBk18]; decide)), fun w => ?_⟩) ?_
  · have e1 := eBk18_49
    exact run_isnil _ _ _ rfl G e1 w
  change wpAny _ _ ops9t Q 5 _ (Bk18.put (some 50) (.bool G)) w1
  have hsBk19 : (Bk18.put (some 50) (.bool G)).tmps.size = 104 := by rw [put_size, hsBk18]
  have hdBk19 : (Bk18.put (some 50) (.bool G)).defers = a.defers := hdBk18
  have eBk19_50 := ev_same Bk18 50 (.bool G) (by rw [hsBk18]; decide)
  have eBk19_49 := (ev_ne Bk18 50 49 (.bool G) (by decide)).trans eBk18_49
  have eBk19_48 := (ev_ne Bk18 50 48 (.bool G) (by decide)).trans eBk18_48
  have eBk19_47 := (ev_ne Bk18 50 47 (.bool G) (by decide)).trans eBk18_47
  have eBk19_46 := (ev_ne Bk18 50 46 (.bool G) (by decide)).trans eBk18_46
  have eBk19_45 := (ev_ne Bk18 50 45 (.bool G) (by decide)).trans eBk18_45
  have eBk19_44 := (ev_ne Bk18 50 44 (.bool G) (by decide)).trans eBk18_44
  have eBk19_43 := (ev_ne Bk18 50 43 (.bool G) (by decide)).trans eBk18_43
  have eBk19_42 := (ev_ne Bk18 50 42 (.bool G) (by decide)).trans eBk18_42
  have eBk19_41 := (ev_ne Bk18 50 41 (.bool G) (by decide)).trans eBk18_41
  have eBk19_40 := (ev_ne Bk18 50 40 (.bool G) (by decide)).trans eBk18_40
  have eBk19_39 := (ev_ne Bk18 50 39 (.bool G) (by decide)).trans eBk18_39
  have eBk19_38 := (ev_ne Bk18 50 38 (.bool G) (by decide)).trans eBk18_38
  have eBk19_37 := (ev_ne Bk18 50 37 (.bool G) (by decide)).trans eBk18_37
  have eBk19_36 := (ev_ne Bk18 50 36 (.bool G) (by decide)).trans eBk18_36
  have eBk19_35 := (ev_ne Bk18 50 35 (.bool G) (by decide)).trans eBk18_35
  have eBk19_33 := (ev_ne Bk18 50 33 (.bool G) (by decide)).trans eBk18_33
  have eBk19_34 := (ev_ne Bk18 50 34 (.bool G) (by decide)).trans eBk18_34
  have eBk19_32 := (ev_ne Bk18 50 32 (.bool G) (by decide)).trans eBk18_32
  have eBk19_0 := (ev_ne Bk18 50 0 (.bool G) (by decide)).trans eBk18_0
  have eBk19_3 := (ev_ne Bk18 50 3 (.bool G) (by decide)).trans eBk18_3
  have eBk19_4 := (ev_ne Bk18 50 4 (.bool G) (by decide)).trans eBk18_4
  have eBk19_5 := (ev_ne Bk18 50 5 (.bool G) (by decide)).trans eBk18_5
  have eBk19_6 := (ev_ne Bk18 50 6 (.bool G) (by decide)).trans eBk18_6
  have eBk19_7 := (ev_ne Bk18 50 7 (.bool G) (by decide)).trans eBk18_7
  have eBk19_8 := (ev_ne Bk18 50 8 (.bool G) (by decide)).trans eBk18_8
  have eBk19_9 := (ev_ne Bk18 50 9 (.bool G) (by decide)).trans eBk18_9
  generalize Bk18.put (some 50) (.bool G) = Bk19 at hsBk19 hdBk19 eBk19_50 eBk19_49 eBk19_48 eBk19_47 eBk19_46 eBk19_45 eBk19_44 eBk19_43 eBk19_42 eBk19_41 eBk19_40 eBk19_39 eBk19_38 eBk19_37 eBk19_36 eBk19_35 eBk19_33 eBk19_34 eBk19_32 eBk19_0 eBk19_3 eBk19_4 eBk19_5 eBk19_6 eBk19_7 eBk19_8 eBk19_9 ⊢
  clear eBk18_49 eBk18_48 eBk18_47 eBk18_46 eBk18_45 eBk18_44 eBk18_43 eBk18_42 eBk18_41 eBk18_40 eBk18_39 eBk18_38 eBk18_37 eBk18_36 eBk18_35 eBk18_33 eBk18_34 eBk18_32 eBk18_0 eBk18_3 eBk18_4 eBk18_5 eBk18_6 eBk18_7 eBk18_8 eBk18_9 hsBk18 hdBk18
  refine wpAny_take (i := 19) (fuel := 4) (oi := { dst := some 51, op := Op.move (Operand.tmp 0), type := 9, pos := "law.go:42", after := #[{ on := 16, ground := Ground.guard }], guard := some (16, false) }) (v := .string s) rfl (by kernel_rfl) (by kernel_rfl) (by kernel_rfl) (fun c a w h => hQp c a _ _ w h) (Or.inl ⟨(wanted_at (d := 48) rfl rfl eBk19_48 (by rw [hsBk19]; decide)), fun w => ?_⟩) ?_
  · exact congrArg (fun v => Result.ok (Next.value v) w) eBk19_0
  change wpAny _ _ ops9t Q 4 _ (Bk19.put (some 51) (.string s)) w1
  have hsBk20 : (Bk19.put (some 51) (.string s)).tmps.size = 104 := by rw [put_size, hsBk19]
  have hdBk20 : (Bk19.put (some 51) (.string s)).defers = a.defers := hdBk19
  have eBk20_51 := ev_same Bk19 51 (.string s) (by rw [hsBk19]; decide)
  have eBk20_50 := (ev_ne Bk19 51 50 (.string s) (by decide)).trans eBk19_50
  have eBk20_49 := (ev_ne Bk19 51 49 (.string s) (by decide)).trans eBk19_49
  have eBk20_48 := (ev_ne Bk19 51 48 (.string s) (by decide)).trans eBk19_48
  have eBk20_47 := (ev_ne Bk19 51 47 (.string s) (by decide)).trans eBk19_47
  have eBk20_46 := (ev_ne Bk19 51 46 (.string s) (by decide)).trans eBk19_46
  have eBk20_45 := (ev_ne Bk19 51 45 (.string s) (by decide)).trans eBk19_45
  have eBk20_44 := (ev_ne Bk19 51 44 (.string s) (by decide)).trans eBk19_44
  have eBk20_43 := (ev_ne Bk19 51 43 (.string s) (by decide)).trans eBk19_43
  have eBk20_42 := (ev_ne Bk19 51 42 (.string s) (by decide)).trans eBk19_42
  have eBk20_41 := (ev_ne Bk19 51 41 (.string s) (by decide)).trans eBk19_41
  have eBk20_40 := (ev_ne Bk19 51 40 (.string s) (by decide)).trans eBk19_40
  have eBk20_39 := (ev_ne Bk19 51 39 (.string s) (by decide)).trans eBk19_39
  have eBk20_38 := (ev_ne Bk19 51 38 (.string s) (by decide)).trans eBk19_38
  have eBk20_37 := (ev_ne Bk19 51 37 (.string s) (by decide)).trans eBk19_37
  have eBk20_36 := (ev_ne Bk19 51 36 (.string s) (by decide)).trans eBk19_36
  have eBk20_35 := (ev_ne Bk19 51 35 (.string s) (by decide)).trans eBk19_35
  have eBk20_33 := (ev_ne Bk19 51 33 (.string s) (by decide)).trans eBk19_33
  have eBk20_34 := (ev_ne Bk19 51 34 (.string s) (by decide)).trans eBk19_34
  have eBk20_32 := (ev_ne Bk19 51 32 (.string s) (by decide)).trans eBk19_32
  have eBk20_0 := (ev_ne Bk19 51 0 (.string s) (by decide)).trans eBk19_0
  have eBk20_3 := (ev_ne Bk19 51 3 (.string s) (by decide)).trans eBk19_3
  have eBk20_4 := (ev_ne Bk19 51 4 (.string s) (by decide)).trans eBk19_4
  have eBk20_5 := (ev_ne Bk19 51 5 (.string s) (by decide)).trans eBk19_5
  have eBk20_6 := (ev_ne Bk19 51 6 (.string s) (by decide)).trans eBk19_6
  have eBk20_7 := (ev_ne Bk19 51 7 (.string s) (by decide)).trans eBk19_7
  have eBk20_8 := (ev_ne Bk19 51 8 (.string s) (by decide)).trans eBk19_8
  have eBk20_9 := (ev_ne Bk19 51 9 (.string s) (by decide)).trans eBk19_9
  generalize Bk19.put (some 51) (.string s) = Bk20 at hsBk20 hdBk20 eBk20_51 eBk20_50 eBk20_49 eBk20_48 eBk20_47 eBk20_46 eBk20_45 eBk20_44 eBk20_43 eBk20_42 eBk20_41 eBk20_40 eBk20_39 eBk20_38 eBk20_37 eBk20_36 eBk20_35 eBk20_33 eBk20_34 eBk20_32 eBk20_0 eBk20_3 eBk20_4 eBk20_5 eBk20_6 eBk20_7 eBk20_8 eBk20_9 ⊢
  clear eBk19_50 eBk19_49 eBk19_48 eBk19_47 eBk19_46 eBk19_45 eBk19_44 eBk19_43 eBk19_42 eBk19_41 eBk19_40 eBk19_39 eBk19_38 eBk19_37 eBk19_36 eBk19_35 eBk19_33 eBk19_34 eBk19_32 eBk19_0 eBk19_3 eBk19_4 eBk19_5 eBk19_6 eBk19_7 eBk19_8 eBk19_9 hsBk19 hdBk19
  refine wpAny_take (i := 20) (fuel := 3) (oi := { dst := some 52, op := Op.binOp BinOp.add 9 (Operand.const (Value.string { data := #[115, 104, 97, 50, 53, 54, 58] })) (Operand.tmp 51) 9, type := 9, pos := "law.go:42", after := #[{ on := 19, ground := Ground.data }, { on := 16, ground := Ground.guard }], guard := some (16, false) }) (v := .string (⟨#[115, 104, 97, 50, 53, 54, 58]⟩ ++ s)) rfl (by kernel_rfl) (by kernel_rfl) (by kernel_rfl) (fun c a w h => hQp c a _ _ w h) (Or.inl ⟨(wanted_at (d := 48) rfl rfl eBk20_48 (by rw [hsBk20]; decide)), fun w => ?_⟩) ?_
  · have e1 := eBk20_51
    exact run_pres _ _ _ rfl s hz e1 w
  change wpAny _ _ ops9t Q 3 _ (Bk20.put (some 52) (.string (⟨#[115, 104, 97, 50, 53, 54, 58]⟩ ++ s))) w1
  have hsBk21 : (Bk20.put (some 52) (.string (⟨#[115, 104, 97, 50, 53, 54, 58]⟩ ++ s))).tmps.size = 104 := by rw [put_size, hsBk20]
  have hdBk21 : (Bk20.put (some 52) (.string (⟨#[115, 104, 97, 50, 53, 54, 58]⟩ ++ s))).defers = a.defers := hdBk20
  have eBk21_52 := ev_same Bk20 52 (.string (⟨#[115, 104, 97, 50, 53, 54, 58]⟩ ++ s)) (by rw [hsBk20]; decide)
  have eBk21_51 := (ev_ne Bk20 52 51 (.string (⟨#[115, 104, 97, 50, 53, 54, 58]⟩ ++ s)) (by decide)).trans eBk20_51
  have eBk21_50 := (ev_ne Bk20 52 50 (.string (⟨#[115, 104, 97, 50, 53, 54, 58]⟩ ++ s)) (by decide)).trans eBk20_50
  have eBk21_49 := (ev_ne Bk20 52 49 (.string (⟨#[115, 104, 97, 50, 53, 54, 58]⟩ ++ s)) (by decide)).trans eBk20_49
  have eBk21_48 := (ev_ne Bk20 52 48 (.string (⟨#[115, 104, 97, 50, 53, 54, 58]⟩ ++ s)) (by decide)).trans eBk20_48
  have eBk21_47 := (ev_ne Bk20 52 47 (.string (⟨#[115, 104, 97, 50, 53, 54, 58]⟩ ++ s)) (by decide)).trans eBk20_47
  have eBk21_46 := (ev_ne Bk20 52 46 (.string (⟨#[115, 104, 97, 50, 53, 54, 58]⟩ ++ s)) (by decide)).trans eBk20_46
  have eBk21_45 := (ev_ne Bk20 52 45 (.string (⟨#[115, 104, 97, 50, 53, 54, 58]⟩ ++ s)) (by decide)).trans eBk20_45
  have eBk21_44 := (ev_ne Bk20 52 44 (.string (⟨#[115, 104, 97, 50, 53, 54, 58]⟩ ++ s)) (by decide)).trans eBk20_44
  have eBk21_43 := (ev_ne Bk20 52 43 (.string (⟨#[115, 104, 97, 50, 53, 54, 58]⟩ ++ s)) (by decide)).trans eBk20_43
  have eBk21_42 := (ev_ne Bk20 52 42 (.string (⟨#[115, 104, 97, 50, 53, 54, 58]⟩ ++ s)) (by decide)).trans eBk20_42
  have eBk21_41 := (ev_ne Bk20 52 41 (.string (⟨#[115, 104, 97, 50, 53, 54, 58]⟩ ++ s)) (by decide)).trans eBk20_41
  have eBk21_40 := (ev_ne Bk20 52 40 (.string (⟨#[115, 104, 97, 50, 53, 54, 58]⟩ ++ s)) (by decide)).trans eBk20_40
  have eBk21_39 := (ev_ne Bk20 52 39 (.string (⟨#[115, 104, 97, 50, 53, 54, 58]⟩ ++ s)) (by decide)).trans eBk20_39
  have eBk21_38 := (ev_ne Bk20 52 38 (.string (⟨#[115, 104, 97, 50, 53, 54, 58]⟩ ++ s)) (by decide)).trans eBk20_38
  have eBk21_37 := (ev_ne Bk20 52 37 (.string (⟨#[115, 104, 97, 50, 53, 54, 58]⟩ ++ s)) (by decide)).trans eBk20_37
  have eBk21_36 := (ev_ne Bk20 52 36 (.string (⟨#[115, 104, 97, 50, 53, 54, 58]⟩ ++ s)) (by decide)).trans eBk20_36
  have eBk21_35 := (ev_ne Bk20 52 35 (.string (⟨#[115, 104, 97, 50, 53, 54, 58]⟩ ++ s)) (by decide)).trans eBk20_35
  have eBk21_33 := (ev_ne Bk20 52 33 (.string (⟨#[115, 104, 97, 50, 53, 54, 58]⟩ ++ s)) (by decide)).trans eBk20_33
  have eBk21_34 := (ev_ne Bk20 52 34 (.string (⟨#[115, 104, 97, 50, 53, 54, 58]⟩ ++ s)) (by decide)).trans eBk20_34
  have eBk21_32 := (ev_ne Bk20 52 32 (.string (⟨#[115, 104, 97, 50, 53, 54, 58]⟩ ++ s)) (by decide)).trans eBk20_32
  have eBk21_0 := (ev_ne Bk20 52 0 (.string (⟨#[115, 104, 97, 50, 53, 54, 58]⟩ ++ s)) (by decide)).trans eBk20_0
  have eBk21_3 := (ev_ne Bk20 52 3 (.string (⟨#[115, 104, 97, 50, 53, 54, 58]⟩ ++ s)) (by decide)).trans eBk20_3
  have eBk21_4 := (ev_ne Bk20 52 4 (.string (⟨#[115, 104, 97, 50, 53, 54, 58]⟩ ++ s)) (by decide)).trans eBk20_4
  have eBk21_5 := (ev_ne Bk20 52 5 (.string (⟨#[115, 104, 97, 50, 53, 54, 58]⟩ ++ s)) (by decide)).trans eBk20_5
  have eBk21_6 := (ev_ne Bk20 52 6 (.string (⟨#[115, 104, 97, 50, 53, 54, 58]⟩ ++ s)) (by decide)).trans eBk20_6
  have eBk21_7 := (ev_ne Bk20 52 7 (.string (⟨#[115, 104, 97, 50, 53, 54, 58]⟩ ++ s)) (by decide)).trans eBk20_7
  have eBk21_8 := (ev_ne Bk20 52 8 (.string (⟨#[115, 104, 97, 50, 53, 54, 58]⟩ ++ s)) (by decide)).trans eBk20_8
  have eBk21_9 := (ev_ne Bk20 52 9 (.string (⟨#[115, 104, 97, 50, 53, 54, 58]⟩ ++ s)) (by decide)).trans eBk20_9
  generalize Bk20.put (some 52) (.string (⟨#[115, 104, 97, 50, 53, 54, 58]⟩ ++ s)) = Bk21 at hsBk21 hdBk21 eBk21_52 eBk21_51 eBk21_50 eBk21_49 eBk21_48 eBk21_47 eBk21_46 eBk21_45 eBk21_44 eBk21_43 eBk21_42 eBk21_41 eBk21_40 eBk21_39 eBk21_38 eBk21_37 eBk21_36 eBk21_35 eBk21_33 eBk21_34 eBk21_32 eBk21_0 eBk21_3 eBk21_4 eBk21_5 eBk21_6 eBk21_7 eBk21_8 eBk21_9 ⊢
  clear eBk20_51 eBk20_50 eBk20_49 eBk20_48 eBk20_47 eBk20_46 eBk20_45 eBk20_44 eBk20_43 eBk20_42 eBk20_41 eBk20_40 eBk20_39 eBk20_38 eBk20_37 eBk20_36 eBk20_35 eBk20_33 eBk20_34 eBk20_32 eBk20_0 eBk20_3 eBk20_4 eBk20_5 eBk20_6 eBk20_7 eBk20_8 eBk20_9 hsBk20 hdBk20
  refine wpAny_ready (rs := [21]) (fuel := 2) (by kernel_rfl) (by decide) ?_
  refine AllReady.cons (o := { dst := some 53, op := Op.call { callee := Callee.value (Operand.func 12), args := #[Operand.tmp 52], argTypes := #[9] }, type := 4, pos := "law.go:42", after := #[{ on := 20, ground := Ground.data }, { on := 16, ground := Ground.chain }, { on := 16, ground := Ground.guard }], guard := some (16, false) }) rfl (fun K hK => ?_) AllReady.nil
  refine step_call1 (wanted_at (d := 48) rfl rfl eBk21_48 (by rw [hsBk21]; decide)) 12 _ (run_call12 _ _ _ _ rfl rfl eBk21_52) ?_
  refine (ris_any _ w1).mono ?_
  rintro e w1' ⟨rfl, rfl⟩
  rw [hG]
  refine hK _ _ ?_
  clear hK K
  change wpAny _ _ ops9t Q 2 _ (Bk21.put (some 53) (.bool G)) w1
  have hsBk22 : (Bk21.put (some 53) (.bool G)).tmps.size = 104 := by rw [put_size, hsBk21]
  have hdBk22 : (Bk21.put (some 53) (.bool G)).defers = a.defers := hdBk21
  have eBk22_53 := ev_same Bk21 53 (.bool G) (by rw [hsBk21]; decide)
  have eBk22_52 := (ev_ne Bk21 53 52 (.bool G) (by decide)).trans eBk21_52
  have eBk22_51 := (ev_ne Bk21 53 51 (.bool G) (by decide)).trans eBk21_51
  have eBk22_50 := (ev_ne Bk21 53 50 (.bool G) (by decide)).trans eBk21_50
  have eBk22_49 := (ev_ne Bk21 53 49 (.bool G) (by decide)).trans eBk21_49
  have eBk22_48 := (ev_ne Bk21 53 48 (.bool G) (by decide)).trans eBk21_48
  have eBk22_47 := (ev_ne Bk21 53 47 (.bool G) (by decide)).trans eBk21_47
  have eBk22_46 := (ev_ne Bk21 53 46 (.bool G) (by decide)).trans eBk21_46
  have eBk22_45 := (ev_ne Bk21 53 45 (.bool G) (by decide)).trans eBk21_45
  have eBk22_44 := (ev_ne Bk21 53 44 (.bool G) (by decide)).trans eBk21_44
  have eBk22_43 := (ev_ne Bk21 53 43 (.bool G) (by decide)).trans eBk21_43
  have eBk22_42 := (ev_ne Bk21 53 42 (.bool G) (by decide)).trans eBk21_42
  have eBk22_41 := (ev_ne Bk21 53 41 (.bool G) (by decide)).trans eBk21_41
  have eBk22_40 := (ev_ne Bk21 53 40 (.bool G) (by decide)).trans eBk21_40
  have eBk22_39 := (ev_ne Bk21 53 39 (.bool G) (by decide)).trans eBk21_39
  have eBk22_38 := (ev_ne Bk21 53 38 (.bool G) (by decide)).trans eBk21_38
  have eBk22_37 := (ev_ne Bk21 53 37 (.bool G) (by decide)).trans eBk21_37
  have eBk22_36 := (ev_ne Bk21 53 36 (.bool G) (by decide)).trans eBk21_36
  have eBk22_35 := (ev_ne Bk21 53 35 (.bool G) (by decide)).trans eBk21_35
  have eBk22_33 := (ev_ne Bk21 53 33 (.bool G) (by decide)).trans eBk21_33
  have eBk22_34 := (ev_ne Bk21 53 34 (.bool G) (by decide)).trans eBk21_34
  have eBk22_32 := (ev_ne Bk21 53 32 (.bool G) (by decide)).trans eBk21_32
  have eBk22_0 := (ev_ne Bk21 53 0 (.bool G) (by decide)).trans eBk21_0
  have eBk22_3 := (ev_ne Bk21 53 3 (.bool G) (by decide)).trans eBk21_3
  have eBk22_4 := (ev_ne Bk21 53 4 (.bool G) (by decide)).trans eBk21_4
  have eBk22_5 := (ev_ne Bk21 53 5 (.bool G) (by decide)).trans eBk21_5
  have eBk22_6 := (ev_ne Bk21 53 6 (.bool G) (by decide)).trans eBk21_6
  have eBk22_7 := (ev_ne Bk21 53 7 (.bool G) (by decide)).trans eBk21_7
  have eBk22_8 := (ev_ne Bk21 53 8 (.bool G) (by decide)).trans eBk21_8
  have eBk22_9 := (ev_ne Bk21 53 9 (.bool G) (by decide)).trans eBk21_9
  generalize Bk21.put (some 53) (.bool G) = Bk22 at hsBk22 hdBk22 eBk22_53 eBk22_52 eBk22_51 eBk22_50 eBk22_49 eBk22_48 eBk22_47 eBk22_46 eBk22_45 eBk22_44 eBk22_43 eBk22_42 eBk22_41 eBk22_40 eBk22_39 eBk22_38 eBk22_37 eBk22_36 eBk22_35 eBk22_33 eBk22_34 eBk22_32 eBk22_0 eBk22_3 eBk22_4 eBk22_5 eBk22_6 eBk22_7 eBk22_8 eBk22_9 ⊢
  clear eBk21_52 eBk21_51 eBk21_50 eBk21_49 eBk21_48 eBk21_47 eBk21_46 eBk21_45 eBk21_44 eBk21_43 eBk21_42 eBk21_41 eBk21_40 eBk21_39 eBk21_38 eBk21_37 eBk21_36 eBk21_35 eBk21_33 eBk21_34 eBk21_32 eBk21_0 eBk21_3 eBk21_4 eBk21_5 eBk21_6 eBk21_7 eBk21_8 eBk21_9 hsBk21 hdBk21
  refine wpAny_take (i := 22) (fuel := 1) (oi := { dst := some 54, op := Op.binOp BinOp.neq 4 (Operand.tmp 50) (Operand.tmp 53) 4, type := 4, pos := "law.go:42", after := #[{ on := 18, ground := Ground.data }, { on := 21, ground := Ground.data }, { on := 16, ground := Ground.guard }], guard := some (16, false) }) (v := .bool false) rfl (by kernel_rfl) (by kernel_rfl) (by kernel_rfl) (fun c a w h => hQp c a _ _ w h) (Or.inl ⟨(wanted_at (d := 48) rfl rfl eBk22_48 (by rw [hsBk22]; decide)), fun w => ?_⟩) ?_
  · have e1 := eBk22_50
    have e2 := eBk22_53
    exact run_neqb _ _ _ _ rfl G e1 e2 w
  change wpAny _ _ ops9t Q 1 _ (Bk22.put (some 54) (.bool false)) w1
  have hsBk23 : (Bk22.put (some 54) (.bool false)).tmps.size = 104 := by rw [put_size, hsBk22]
  have hdBk23 : (Bk22.put (some 54) (.bool false)).defers = a.defers := hdBk22
  have eBk23_54 := ev_same Bk22 54 (.bool false) (by rw [hsBk22]; decide)
  have eBk23_53 := (ev_ne Bk22 54 53 (.bool false) (by decide)).trans eBk22_53
  have eBk23_52 := (ev_ne Bk22 54 52 (.bool false) (by decide)).trans eBk22_52
  have eBk23_51 := (ev_ne Bk22 54 51 (.bool false) (by decide)).trans eBk22_51
  have eBk23_50 := (ev_ne Bk22 54 50 (.bool false) (by decide)).trans eBk22_50
  have eBk23_49 := (ev_ne Bk22 54 49 (.bool false) (by decide)).trans eBk22_49
  have eBk23_48 := (ev_ne Bk22 54 48 (.bool false) (by decide)).trans eBk22_48
  have eBk23_47 := (ev_ne Bk22 54 47 (.bool false) (by decide)).trans eBk22_47
  have eBk23_46 := (ev_ne Bk22 54 46 (.bool false) (by decide)).trans eBk22_46
  have eBk23_45 := (ev_ne Bk22 54 45 (.bool false) (by decide)).trans eBk22_45
  have eBk23_44 := (ev_ne Bk22 54 44 (.bool false) (by decide)).trans eBk22_44
  have eBk23_43 := (ev_ne Bk22 54 43 (.bool false) (by decide)).trans eBk22_43
  have eBk23_42 := (ev_ne Bk22 54 42 (.bool false) (by decide)).trans eBk22_42
  have eBk23_41 := (ev_ne Bk22 54 41 (.bool false) (by decide)).trans eBk22_41
  have eBk23_40 := (ev_ne Bk22 54 40 (.bool false) (by decide)).trans eBk22_40
  have eBk23_39 := (ev_ne Bk22 54 39 (.bool false) (by decide)).trans eBk22_39
  have eBk23_38 := (ev_ne Bk22 54 38 (.bool false) (by decide)).trans eBk22_38
  have eBk23_37 := (ev_ne Bk22 54 37 (.bool false) (by decide)).trans eBk22_37
  have eBk23_36 := (ev_ne Bk22 54 36 (.bool false) (by decide)).trans eBk22_36
  have eBk23_35 := (ev_ne Bk22 54 35 (.bool false) (by decide)).trans eBk22_35
  have eBk23_33 := (ev_ne Bk22 54 33 (.bool false) (by decide)).trans eBk22_33
  have eBk23_34 := (ev_ne Bk22 54 34 (.bool false) (by decide)).trans eBk22_34
  have eBk23_32 := (ev_ne Bk22 54 32 (.bool false) (by decide)).trans eBk22_32
  have eBk23_0 := (ev_ne Bk22 54 0 (.bool false) (by decide)).trans eBk22_0
  have eBk23_3 := (ev_ne Bk22 54 3 (.bool false) (by decide)).trans eBk22_3
  have eBk23_4 := (ev_ne Bk22 54 4 (.bool false) (by decide)).trans eBk22_4
  have eBk23_5 := (ev_ne Bk22 54 5 (.bool false) (by decide)).trans eBk22_5
  have eBk23_6 := (ev_ne Bk22 54 6 (.bool false) (by decide)).trans eBk22_6
  have eBk23_7 := (ev_ne Bk22 54 7 (.bool false) (by decide)).trans eBk22_7
  have eBk23_8 := (ev_ne Bk22 54 8 (.bool false) (by decide)).trans eBk22_8
  have eBk23_9 := (ev_ne Bk22 54 9 (.bool false) (by decide)).trans eBk22_9
  generalize Bk22.put (some 54) (.bool false) = Bk23 at hsBk23 hdBk23 eBk23_54 eBk23_53 eBk23_52 eBk23_51 eBk23_50 eBk23_49 eBk23_48 eBk23_47 eBk23_46 eBk23_45 eBk23_44 eBk23_43 eBk23_42 eBk23_41 eBk23_40 eBk23_39 eBk23_38 eBk23_37 eBk23_36 eBk23_35 eBk23_33 eBk23_34 eBk23_32 eBk23_0 eBk23_3 eBk23_4 eBk23_5 eBk23_6 eBk23_7 eBk23_8 eBk23_9 ⊢
  clear eBk22_53 eBk22_52 eBk22_51 eBk22_50 eBk22_49 eBk22_48 eBk22_47 eBk22_46 eBk22_45 eBk22_44 eBk22_43 eBk22_42 eBk22_41 eBk22_40 eBk22_39 eBk22_38 eBk22_37 eBk22_36 eBk22_35 eBk22_33 eBk22_34 eBk22_32 eBk22_0 eBk22_3 eBk22_4 eBk22_5 eBk22_6 eBk22_7 eBk22_8 eBk22_9 hsBk22 hdBk22
  refine wpAny_take (i := 23) (fuel := 0) (oi := { dst := some 55, op := Op.pick (Operand.tmp 48) (Operand.const (Value.bool true)) (Operand.tmp 54), type := 4, pos := "law.go:42", after := #[{ on := 16, ground := Ground.data }, { on := 22, ground := Ground.data }], guard := none }) (v := .bool false) rfl (by kernel_rfl) (by kernel_rfl) (by kernel_rfl) (fun c a w h => hQp c a _ _ w h) (Or.inl ⟨rfl, fun w => ?_⟩) ?_
  · have e1 := eBk23_48
    have e2 := eBk23_54
    exact run_pickf _ _ _ _ _ rfl e1 e2 w
  change wpAny _ _ ops9t Q 0 _ (Bk23.put (some 55) (.bool false)) w1
  have hsBk24 : (Bk23.put (some 55) (.bool false)).tmps.size = 104 := by rw [put_size, hsBk23]
  have hdBk24 : (Bk23.put (some 55) (.bool false)).defers = a.defers := hdBk23
  have eBk24_55 := ev_same Bk23 55 (.bool false) (by rw [hsBk23]; decide)
  have eBk24_54 := (ev_ne Bk23 55 54 (.bool false) (by decide)).trans eBk23_54
  have eBk24_53 := (ev_ne Bk23 55 53 (.bool false) (by decide)).trans eBk23_53
  have eBk24_52 := (ev_ne Bk23 55 52 (.bool false) (by decide)).trans eBk23_52
  have eBk24_51 := (ev_ne Bk23 55 51 (.bool false) (by decide)).trans eBk23_51
  have eBk24_50 := (ev_ne Bk23 55 50 (.bool false) (by decide)).trans eBk23_50
  have eBk24_49 := (ev_ne Bk23 55 49 (.bool false) (by decide)).trans eBk23_49
  have eBk24_48 := (ev_ne Bk23 55 48 (.bool false) (by decide)).trans eBk23_48
  have eBk24_47 := (ev_ne Bk23 55 47 (.bool false) (by decide)).trans eBk23_47
  have eBk24_46 := (ev_ne Bk23 55 46 (.bool false) (by decide)).trans eBk23_46
  have eBk24_45 := (ev_ne Bk23 55 45 (.bool false) (by decide)).trans eBk23_45
  have eBk24_44 := (ev_ne Bk23 55 44 (.bool false) (by decide)).trans eBk23_44
  have eBk24_43 := (ev_ne Bk23 55 43 (.bool false) (by decide)).trans eBk23_43
  have eBk24_42 := (ev_ne Bk23 55 42 (.bool false) (by decide)).trans eBk23_42
  have eBk24_41 := (ev_ne Bk23 55 41 (.bool false) (by decide)).trans eBk23_41
  have eBk24_40 := (ev_ne Bk23 55 40 (.bool false) (by decide)).trans eBk23_40
  have eBk24_39 := (ev_ne Bk23 55 39 (.bool false) (by decide)).trans eBk23_39
  have eBk24_38 := (ev_ne Bk23 55 38 (.bool false) (by decide)).trans eBk23_38
  have eBk24_37 := (ev_ne Bk23 55 37 (.bool false) (by decide)).trans eBk23_37
  have eBk24_36 := (ev_ne Bk23 55 36 (.bool false) (by decide)).trans eBk23_36
  have eBk24_35 := (ev_ne Bk23 55 35 (.bool false) (by decide)).trans eBk23_35
  have eBk24_33 := (ev_ne Bk23 55 33 (.bool false) (by decide)).trans eBk23_33
  have eBk24_34 := (ev_ne Bk23 55 34 (.bool false) (by decide)).trans eBk23_34
  have eBk24_32 := (ev_ne Bk23 55 32 (.bool false) (by decide)).trans eBk23_32
  have eBk24_0 := (ev_ne Bk23 55 0 (.bool false) (by decide)).trans eBk23_0
  have eBk24_3 := (ev_ne Bk23 55 3 (.bool false) (by decide)).trans eBk23_3
  have eBk24_4 := (ev_ne Bk23 55 4 (.bool false) (by decide)).trans eBk23_4
  have eBk24_5 := (ev_ne Bk23 55 5 (.bool false) (by decide)).trans eBk23_5
  have eBk24_6 := (ev_ne Bk23 55 6 (.bool false) (by decide)).trans eBk23_6
  have eBk24_7 := (ev_ne Bk23 55 7 (.bool false) (by decide)).trans eBk23_7
  have eBk24_8 := (ev_ne Bk23 55 8 (.bool false) (by decide)).trans eBk23_8
  have eBk24_9 := (ev_ne Bk23 55 9 (.bool false) (by decide)).trans eBk23_9
  generalize Bk23.put (some 55) (.bool false) = Bk24 at hsBk24 hdBk24 eBk24_55 eBk24_54 eBk24_53 eBk24_52 eBk24_51 eBk24_50 eBk24_49 eBk24_48 eBk24_47 eBk24_46 eBk24_45 eBk24_44 eBk24_43 eBk24_42 eBk24_41 eBk24_40 eBk24_39 eBk24_38 eBk24_37 eBk24_36 eBk24_35 eBk24_33 eBk24_34 eBk24_32 eBk24_0 eBk24_3 eBk24_4 eBk24_5 eBk24_6 eBk24_7 eBk24_8 eBk24_9 ⊢
  clear eBk23_54 eBk23_53 eBk23_52 eBk23_51 eBk23_50 eBk23_49 eBk23_48 eBk23_47 eBk23_46 eBk23_45 eBk23_44 eBk23_43 eBk23_42 eBk23_41 eBk23_40 eBk23_39 eBk23_38 eBk23_37 eBk23_36 eBk23_35 eBk23_33 eBk23_34 eBk23_32 eBk23_0 eBk23_3 eBk23_4 eBk23_5 eBk23_6 eBk23_7 eBk23_8 eBk23_9 hsBk23 hdBk23
  refine wpAny_done (by kernel_rfl) ?_ _
  exact hq _ _ hsBk24 hdBk24 eBk24_0 eBk24_3 eBk24_4 eBk24_5 eBk24_6 eBk24_7 eBk24_8 eBk24_9 eBk24_55 hbw1

theorem act104 (a : Act) (h : a.tmps.size = 104) (hd : a.defers = []) : a = ⟨#[a.eval (.tmp 0), a.eval (.tmp 1), a.eval (.tmp 2), a.eval (.tmp 3), a.eval (.tmp 4), a.eval (.tmp 5), a.eval (.tmp 6), a.eval (.tmp 7), a.eval (.tmp 8), a.eval (.tmp 9), a.eval (.tmp 10), a.eval (.tmp 11), a.eval (.tmp 12), a.eval (.tmp 13), a.eval (.tmp 14), a.eval (.tmp 15), a.eval (.tmp 16), a.eval (.tmp 17), a.eval (.tmp 18), a.eval (.tmp 19), a.eval (.tmp 20), a.eval (.tmp 21), a.eval (.tmp 22), a.eval (.tmp 23), a.eval (.tmp 24), a.eval (.tmp 25), a.eval (.tmp 26), a.eval (.tmp 27), a.eval (.tmp 28), a.eval (.tmp 29), a.eval (.tmp 30), a.eval (.tmp 31), a.eval (.tmp 32), a.eval (.tmp 33), a.eval (.tmp 34), a.eval (.tmp 35), a.eval (.tmp 36), a.eval (.tmp 37), a.eval (.tmp 38), a.eval (.tmp 39), a.eval (.tmp 40), a.eval (.tmp 41), a.eval (.tmp 42), a.eval (.tmp 43), a.eval (.tmp 44), a.eval (.tmp 45), a.eval (.tmp 46), a.eval (.tmp 47), a.eval (.tmp 48), a.eval (.tmp 49), a.eval (.tmp 50), a.eval (.tmp 51), a.eval (.tmp 52), a.eval (.tmp 53), a.eval (.tmp 54), a.eval (.tmp 55), a.eval (.tmp 56), a.eval (.tmp 57), a.eval (.tmp 58), a.eval (.tmp 59), a.eval (.tmp 60), a.eval (.tmp 61), a.eval (.tmp 62), a.eval (.tmp 63), a.eval (.tmp 64), a.eval (.tmp 65), a.eval (.tmp 66), a.eval (.tmp 67), a.eval (.tmp 68), a.eval (.tmp 69), a.eval (.tmp 70), a.eval (.tmp 71), a.eval (.tmp 72), a.eval (.tmp 73), a.eval (.tmp 74), a.eval (.tmp 75), a.eval (.tmp 76), a.eval (.tmp 77), a.eval (.tmp 78), a.eval (.tmp 79), a.eval (.tmp 80), a.eval (.tmp 81), a.eval (.tmp 82), a.eval (.tmp 83), a.eval (.tmp 84), a.eval (.tmp 85), a.eval (.tmp 86), a.eval (.tmp 87), a.eval (.tmp 88), a.eval (.tmp 89), a.eval (.tmp 90), a.eval (.tmp 91), a.eval (.tmp 92), a.eval (.tmp 93), a.eval (.tmp 94), a.eval (.tmp 95), a.eval (.tmp 96), a.eval (.tmp 97), a.eval (.tmp 98), a.eval (.tmp 99), a.eval (.tmp 100), a.eval (.tmp 101), a.eval (.tmp 102), a.eval (.tmp 103)], []⟩ := by
  have h1 : a.tmps.toList = (List.range 104).map fun i => a.eval (.tmp i) := by
    apply List.ext_getElem
    · simp [h]
    · intro i h1 h2
      simp [Act.eval, Array.getElem?_eq_getElem (by simpa using h1 : i < a.tmps.size)]
  obtain ⟨tmps, defers⟩ := a
  simp only at h1 hd
  subst hd
  have h2 : tmps = ((List.range 104).map fun i => (Act.mk tmps []).eval (.tmp i)).toArray := by rw [← h1]
  exact congrArg (fun x => Act.mk x []) h2
end Go.Proofs.YtbklcelnnmhgkaaDoor
