
/- Contracts of guard's functions. -/
import Derived.Test.YtanmkddmebhdpaaDoorWords
import Derived.Defers
import Derived.Recover
namespace Go.Proofs.YtanmkddmebhdpaaDoor
set_option maxRecDepth 20000
set_option maxRecDepth 20000
open Go.RowKit

theorem ta69 (x : Value) (w : World) : (Instr.typeAssert (.iface 48 x) 24 48 true).run Tryd.prog w = .ok (.tuple #[x, .bool true]) w := by kernel_rfl

theorem ta39 (x : Value) (w : World) : (Instr.typeAssert (.iface 39 x) 24 48 true).run Tryd.prog w = .ok (.tuple #[.pointer none, .bool false]) w := by kernel_rfl

theorem tb69 (x : Value) (w : World) : (Instr.typeAssert (.iface 48 x) 24 39 true).run Tryd.prog w = .ok (.tuple #[.int .i64 0, .bool false]) w := by kernel_rfl

theorem tb39 (x : Value) (w : World) : (Instr.typeAssert (.iface 39 x) 24 39 true).run Tryd.prog w = .ok (.tuple #[x, .bool true]) w := by kernel_rfl

theorem tc69 (x : Value) (w : World) : (Instr.typeAssert (.iface 48 x) 20 48 true).run Tryd.prog w = .ok (.tuple #[x, .bool true]) w := by kernel_rfl

theorem tc3 (x : Value) (w : World) : (Instr.typeAssert (.iface 3 x) 20 48 true).run Tryd.prog w = .ok (.tuple #[.pointer none, .bool false]) w := by kernel_rfl

def flt (a : Addr) : List PanicEntry := [{ v := .iface 48 (.pointer (some a)), recovered := false }]

set_option maxHeartbeats 400000 in
theorem throw_any (c : Int) (s : ByteArray) (w : World) :
    Calls Tryd.prog 28 #[.int .i64 c, .string s] w fun e w' => e = .panicked (flt ⟨w.heap.size, 0, none⟩) ∧ w.alloc (.cells #[.int .i64 c, .string s] 58) = w' := by
  go_enter Tryd.func28, Tryd.ntmps28
  go_wp2
  exact ⟨rfl, rfl, rfl⟩

set_option maxHeartbeats 400000 in
theorem code_fault (b o : Nat) (c : Int) (w : World) (hc : w.cell? ⟨b, o, none⟩ = some (.int .i64 c)) : Calls Tryd.prog 17 #[.iface 48 (.pointer (some ⟨b, o, none⟩))] w fun e w' => e = .returned (.int .i64 c) ∧ w = w' := by
  have kta69 := ta69
  go_enter Tryd.func17, Tryd.ntmps17
  go_wp2
  go_ret
  exact ⟨rfl, rfl⟩

set_option maxHeartbeats 400000 in
theorem code_errno (c : Int) (w : World) : Calls Tryd.prog 17 #[.iface 39 (.int .i64 c)] w fun e w' => e = .returned (.int .i64 c) ∧ w = w' := by
  have kta39 := ta39
  have ktb39 := tb39
  go_enter Tryd.func17, Tryd.ntmps17
  go_wp2
  go_ret
  exact ⟨rfl, rfl⟩

def fin2 (n : Nat) (w : World) (a : Value) (b : Bool) : World := (w.setCell ⟨n, 0, none⟩ a).setCell ⟨n + 1, 0, none⟩ (.bool b)

def Two (n : Nat) (w : World) : Prop := (∃ v, w.cell? ⟨n, 0, none⟩ = some v) ∧ w.frozen? ⟨n, 0, none⟩ = false ∧ (∃ v, w.cell? ⟨n + 1, 0, none⟩ = some v) ∧ w.frozen? ⟨n + 1, 0, none⟩ = false

set_option maxHeartbeats 400000 in
theorem caught (n : Nat) (x : Option Addr) (older : List PanicEntry) (w : World) (h : Two n w) :
    CallsD Tryd.prog 32 #[.pointer (some ⟨n, 0, none⟩), .pointer (some ⟨n + 1, 0, none⟩)] (.panicking ({ v := .iface 48 (.pointer x), recovered := false } :: older)) w fun e u' w' =>
      e = .returned (.tuple #[]) ∧ u' = .panicking ({ v := .iface 48 (.pointer x), recovered := true } :: older) ∧ fin2 n w (.pointer x) true = w' := by
  obtain ⟨⟨v1, c1⟩, f1, ⟨v2, c2⟩, f2⟩ := h
  have k1 := tc69
  refine callsD_of_wpS Tryd.func32 rfl fun c₀ cs hu => ?_
  apply wpS_seq
  apply wpS_region
  simp [wpOpsS, go_sem, recoverD, hu, Tryd.ntmps32, Exit.thenS]
  clear hu
  refine wpS_of_wp ?_
  change Code.wp _ _ _ ⟨#[.pointer (some ⟨n, 0, none⟩), .pointer (some ⟨n + 1, 0, none⟩), .iface 48 (.pointer x), .iface 48 (.pointer x), undef, undef, undef, undef, undef, undef, undef, undef, undef, undef], []⟩ _
  generalize hQ : (fun (e : Exit) (a' : Act) (w' : World) => bodyPostS _ _ _ _ _ e a' _ w') = Q
  have HQ := Lib.hid hQ
  clear hQ
  go_wp2
  rw [← HQ.out]
  exact ⟨rfl, _, rfl, .tuple #[], by simp [results, Tryd.results32], rfl, rfl, rfl⟩

set_option maxHeartbeats 400000 in
theorem passed (n : Nat) (x : Int) (older : List PanicEntry) (w : World) (h : Two n w) :
    CallsD Tryd.prog 32 #[.pointer (some ⟨n, 0, none⟩), .pointer (some ⟨n + 1, 0, none⟩)] (.panicking ({ v := .iface 3 (.int .i64 x), recovered := false } :: older)) w fun e u' w' =>
      e = .panicked [{ v := .iface 3 (.int .i64 x), recovered := false }] ∧ u' = .panicking ({ v := .iface 3 (.int .i64 x), recovered := true } :: older) ∧ fin2 n w (.pointer none) false = w' := by
  obtain ⟨⟨v1, c1⟩, f1, ⟨v2, c2⟩, f2⟩ := h
  have k1 := tc3
  refine callsD_of_wpS Tryd.func32 rfl fun c₀ cs hu => ?_
  apply wpS_seq
  apply wpS_region
  simp [wpOpsS, go_sem, recoverD, hu, Tryd.ntmps32, Exit.thenS]
  clear hu
  refine wpS_of_wp ?_
  change Code.wp _ _ _ ⟨#[.pointer (some ⟨n, 0, none⟩), .pointer (some ⟨n + 1, 0, none⟩), .iface 3 (.int .i64 x), .iface 3 (.int .i64 x), undef, undef, undef, undef, undef, undef, undef, undef, undef, undef], []⟩ _
  generalize hQ : (fun (e : Exit) (a' : Act) (w' : World) => bodyPostS _ _ _ _ _ e a' _ w') = Q
  have HQ := Lib.hid hQ
  clear hQ
  go_wp2
  rw [← HQ.out]
  exact ⟨rfl, _, rfl, rfl, rfl, rfl⟩

set_option maxHeartbeats 400000 in
theorem idle (n : Nat) (w : World) :
    CallsD Tryd.prog 32 #[.pointer (some ⟨n, 0, none⟩), .pointer (some ⟨n + 1, 0, none⟩)] .returning w fun e u' w' =>
      e = .returned (.tuple #[]) ∧ u' = .returning ∧ w = w' := by
  refine callsD_of_wpS Tryd.func32 rfl fun c₀ cs hu => ?_
  apply wpS_seq
  apply wpS_region
  simp [wpOpsS, go_sem, recoverD, hu, Tryd.ntmps32, Exit.thenS]
  have hm : { c₀ with mode := .returning } = c₀ := by rw [← hu]
  have HM := Lib.hid hm
  clear hu hm
  refine wpS_of_wp ?_
  change Code.wp _ _ _ ⟨#[.pointer (some ⟨n, 0, none⟩), .pointer (some ⟨n + 1, 0, none⟩), .nilIface, .nilIface, undef, undef, undef, undef, undef, undef, undef, undef, undef, undef], []⟩ _
  generalize hQ : (fun (e : Exit) (a' : Act) (w' : World) => bodyPostS _ _ _ _ _ e a' _ w') = Q
  have HQ := Lib.hid hQ
  clear hQ
  go_wp2
  rw [← HQ.out]
  exact ⟨rfl, .returning, by rw [HM.out], .tuple #[], by simp [results, Tryd.results32], rfl, rfl, rfl⟩

theorem catch_cps (k : Nat) (first cap : Array Value) (w : World) (R F : Ending → World → Prop)
    (hcf : ∀ (a : Array Value) (w : World), (callFunc k a).run Tryd.prog w = .ok (.enter k a) w)
    (hcall : Calls Tryd.prog k (first ++ cap) ((w.alloc (.cells #[.pointer none] 48)).alloc (.cells #[.bool false] 4)) F)
    (h : ∀ e w1, F e w1 → Two w.heap.size w1 ∧ (
      (∃ v, e = .returned v ∧ R (.returned (.tuple #[.pointer none, .bool false])) (fin2 w.heap.size w1 (.pointer none) false)) ∨
      (∃ x older, e = .panicked ({ v := .iface 48 (.pointer x), recovered := false } :: older) ∧ older.dropWhile (!·.goexit) = [] ∧ R (.returned (.tuple #[.pointer x, .bool true])) (fin2 w.heap.size w1 (.pointer x) true)) ∨
      (∃ x older, e = .panicked ({ v := .iface 3 (.int .i64 x), recovered := false } :: older) ∧
        R (.panicked ({ v := .iface 3 (.int .i64 x), recovered := false } :: { v := .iface 3 (.int .i64 x), recovered := true } :: older)) (fin2 w.heap.size w1 (.pointer none) false)))) :
    Calls Tryd.prog 23 #[.func (.func k) first cap] w R := by
  have hmf : ∀ (fn : Fn) (first cap : Array Value) (w : World), (Instr.makeFunc fn first cap).run Tryd.prog w = .ok (.func fn first cap) w := fun _ _ _ _ => rfl
  have hnf : ∀ (fn : Fn) (first cap : Array Value) (w : World), (binOp BinOp.eql 1 (.func fn first cap) .nilFunc).run Tryd.prog w = .ok (.bool false) w := fun _ _ _ _ => by kernel_rfl
  have HC := Lib.hid hcall
  have HH := Lib.hid h
  clear hcall h
  go_enter_defers Tryd.func23, Tryd.ntmps23
  go_wp2_with fail
  refine HC.out.mono ?_
  intro e w1 hF
  obtain ⟨⟨⟨v1, c1⟩, f1, ⟨v2, c2⟩, f2⟩, hh⟩ := HH.out e w1 hF
  clear hF
  rcases hh with ⟨v, rfl, hR⟩ | ⟨x, older, rfl, hg, hR⟩ | ⟨x, older, rfl, hR⟩
  · have HR := Lib.hid hR
    clear hR
    go_wp2_with fail
    refine leaves_cons (f := 32) (args := #[.pointer (some ⟨w.heap.size, 0, none⟩), .pointer (some ⟨w.heap.size + 1, 0, none⟩)]) (by simp) (by simp [go_sem]) ?_
    refine (idle w.heap.size _).mono ?_
    rintro e u' w'' ⟨rfl, rfl, rfl⟩
    have HR2 := HR.out
    unfold fin2 at HR2
    simp [Leaves, settle, results, Tryd.results23, go_sem, c1, c2]
    exact HR2
  · refine leaves_cons (f := 32) (args := #[.pointer (some ⟨w.heap.size, 0, none⟩), .pointer (some ⟨w.heap.size + 1, 0, none⟩)]) (by simp) (by simp [go_sem]) ?_
    refine (caught w.heap.size x older w1 ⟨⟨v1, c1⟩, f1, ⟨v2, c2⟩, f2⟩).mono ?_
    rintro e u' w'' ⟨rfl, rfl, rfl⟩
    unfold fin2 at hR ⊢
    simp [Leaves, settle, results, Tryd.results23, go_sem, c1, c2, hg]
    exact hR
  · refine leaves_cons (f := 32) (args := #[.pointer (some ⟨w.heap.size, 0, none⟩), .pointer (some ⟨w.heap.size + 1, 0, none⟩)]) (by simp) (by simp [go_sem]) ?_
    refine (passed w.heap.size x older w1 ⟨⟨v1, c1⟩, f1, ⟨v2, c2⟩, f2⟩).mono ?_
    rintro e u' w'' ⟨rfl, rfl, rfl⟩
    exact hR

set_option maxHeartbeats 400000 in
theorem try_cps (k : Nat) (first cap : Array Value) (w : World) (R F : Ending → World → Prop)
    (hcf : ∀ (a : Array Value) (w : World), (callFunc k a).run Tryd.prog w = .ok (.enter k a) w)
    (hcall : Calls Tryd.prog k (first ++ cap) ((w.alloc (.cells #[.pointer none] 48)).alloc (.cells #[.bool false] 4)) F)
    (h : ∀ e w1, F e w1 → Two w.heap.size w1 ∧ (
      (∃ v, e = .returned v ∧ R (.returned .nilIface) (fin2 w.heap.size w1 (.pointer none) false)) ∨
      (∃ x older, e = .panicked ({ v := .iface 48 (.pointer x), recovered := false } :: older) ∧ older.dropWhile (!·.goexit) = [] ∧ R (.returned (.iface 48 (.pointer x))) (fin2 w.heap.size w1 (.pointer x) true)) ∨
      (∃ x older, e = .panicked ({ v := .iface 3 (.int .i64 x), recovered := false } :: older) ∧
        R (.panicked ({ v := .iface 3 (.int .i64 x), recovered := false } :: { v := .iface 3 (.int .i64 x), recovered := true } :: older)) (fin2 w.heap.size w1 (.pointer none) false)))) :
    Calls Tryd.prog 14 #[.func (.func k) first cap] w R := by
  have HF := Lib.hid hcf
  have HC := Lib.hid hcall
  have HH := Lib.hid h
  clear hcall h hcf
  go_enter Tryd.func14, Tryd.ntmps14
  go_wp2_with fail
  refine catch_cps k first cap w _ F HF.out HC.out ?_
  intro e w1 hF
  obtain ⟨h2, hh⟩ := HH.out e w1 hF
  refine ⟨h2, ?_⟩
  clear h2 hF HH
  rcases hh with ⟨v, rfl, hR⟩ | ⟨x, older, rfl, hg, hR⟩ | ⟨x, older, rfl, hR⟩
  · refine .inl ⟨v, rfl, ?_⟩
    have HR := Lib.hid hR
    clear hR
    go_wp2_with fail
    exact HR.out
  · refine .inr (.inl ⟨x, older, rfl, hg, ?_⟩)
    have HR := Lib.hid hR
    clear hR hg
    go_wp2_with fail
    exact HR.out
  · refine .inr (.inr ⟨x, older, rfl, ?_⟩)
    exact ⟨rfl, hR⟩

end Go.Proofs.YtanmkddmebhdpaaDoor
