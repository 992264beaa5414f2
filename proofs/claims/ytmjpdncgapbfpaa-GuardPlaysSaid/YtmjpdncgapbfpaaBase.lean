/- Contracts of the guard package's functions (what each call does), used by the proofs of the four laws of layer 1. -/
import Derived.Test.YtmjpdncgapbfpaaRows
import Derived.WalkKit
import Derived.WalkSpells
import Derived.WalkLawsBesides
import Derived.Defers
import Derived.Recover
import Derived.Lib.Hide
namespace Go.Proofs.Ytmjpdncgapbfpaa
open Go.RowKit


theorem ta0 (w : World) : (Instr.typeAssert .nilIface 32 42 true).run Try.prog w = .ok (.tuple #[.pointer none, .bool false]) w := by kernel_rfl
theorem ta42 (x : Value) (w : World) : (Instr.typeAssert (.iface 42 x) 32 42 true).run Try.prog w = .ok (.tuple #[x, .bool true]) w := by kernel_rfl
theorem ta43 (x : Value) (w : World) : (Instr.typeAssert (.iface 43 x) 32 42 true).run Try.prog w = .ok (.tuple #[.pointer none, .bool false]) w := by kernel_rfl
theorem tb42 (x : Value) (w : World) : (Instr.typeAssert (.iface 42 x) 32 43 true).run Try.prog w = .ok (.tuple #[.int .i64 0, .bool false]) w := by kernel_rfl
theorem tb43 (x : Value) (w : World) : (Instr.typeAssert (.iface 43 x) 32 43 true).run Try.prog w = .ok (.tuple #[x, .bool true]) w := by kernel_rfl
theorem tc42 (x : Value) (w : World) : (Instr.typeAssert (.iface 42 x) 20 42 true).run Try.prog w = .ok (.tuple #[x, .bool true]) w := by kernel_rfl
theorem tc3 (x : Value) (w : World) : (Instr.typeAssert (.iface 3 x) 20 42 true).run Try.prog w = .ok (.tuple #[.pointer none, .bool false]) w := by kernel_rfl
theorem td3 (x : Value) (w : World) : (Instr.typeAssert (.iface 3 x) 20 3 true).run Try.prog w = .ok (.tuple #[x, .bool true]) w := by kernel_rfl

def flt (a : Addr) : List PanicEntry := [{ v := .iface 42 (.pointer (some a)), recovered := false }]

set_option maxHeartbeats 400000 in
theorem throw_any (c : Int) (s : ByteArray) (w : World) :
    Calls Try.prog 29 #[.int .i64 c, .string s] w fun e w' => e = .panicked (flt ⟨w.heap.size, 0, none⟩) ∧ w.alloc (.cells #[.int .i64 c, .string s] 45) = w' := by
  go_enter Try.func29, Try.ntmps29
  go_wp2
  exact ⟨rfl, rfl, rfl⟩

set_option maxHeartbeats 400000 in
theorem code_nil (w : World) : Calls Try.prog 15 #[.nilIface] w fun e w' => e = .returned (.int .i64 0) ∧ w = w' := by
  go_enter Try.func15, Try.ntmps15
  go_wp2
  go_ret
  exact ⟨rfl, rfl⟩

set_option maxHeartbeats 400000 in
theorem code_fault (b o : Nat) (c : Int) (w : World) (hc : w.cell? ⟨b, o, none⟩ = some (.int .i64 c)) : Calls Try.prog 15 #[.iface 42 (.pointer (some ⟨b, o, none⟩))] w fun e w' => e = .returned (.int .i64 c) ∧ w = w' := by
  have kta42 := ta42
  go_enter Try.func15, Try.ntmps15
  go_wp2
  go_ret
  exact ⟨rfl, rfl⟩

set_option maxHeartbeats 400000 in
theorem code_none (w : World) : Calls Try.prog 15 #[.iface 42 (.pointer none)] w fun e w' => e = .returned (.int .i64 11) ∧ w = w' := by
  have kta42 := ta42
  go_enter Try.func15, Try.ntmps15
  go_wp2
  go_ret
  exact ⟨rfl, rfl⟩

set_option maxHeartbeats 400000 in
theorem code_errno (c : Int) (w : World) : Calls Try.prog 15 #[.iface 43 (.int .i64 c)] w fun e w' => e = .returned (.int .i64 c) ∧ w = w' := by
  have kta43 := ta43
  have ktb43 := tb43
  go_enter Try.func15, Try.ntmps15
  go_wp2
  go_ret
  exact ⟨rfl, rfl⟩

set_option maxHeartbeats 400000 in
theorem where_nil (w : World) : Calls Try.prog 16 #[.nilIface] w fun e w' => e = .returned (.string ⟨#[]⟩) ∧ w = w' := by
  have k0 := ta0
  go_enter Try.func16, Try.ntmps16
  go_wp2
  go_ret
  exact ⟨rfl, rfl⟩

set_option maxHeartbeats 400000 in
theorem where_fault (b o : Nat) (s : ByteArray) (w : World) (hc : w.cell? ⟨b, o + 1, none⟩ = some (.string s)) : Calls Try.prog 16 #[.iface 42 (.pointer (some ⟨b, o, none⟩))] w fun e w' => e = .returned (.string s) ∧ w = w' := by
  have kta42 := ta42
  go_enter Try.func16, Try.ntmps16
  go_wp2
  go_ret
  exact ⟨rfl, rfl⟩

set_option maxHeartbeats 400000 in
theorem where_none (w : World) : Calls Try.prog 16 #[.iface 42 (.pointer none)] w fun e w' => e = .returned (.string ⟨#[]⟩) ∧ w = w' := by
  have kta42 := ta42
  go_enter Try.func16, Try.ntmps16
  go_wp2
  go_ret
  exact ⟨rfl, rfl⟩

set_option maxHeartbeats 400000 in
theorem where_errno (c : Int) (w : World) : Calls Try.prog 16 #[.iface 43 (.int .i64 c)] w fun e w' => e = .returned (.string ⟨#[]⟩) ∧ w = w' := by
  have kta43 := ta43
  go_enter Try.func16, Try.ntmps16
  go_wp2
  go_ret
  exact ⟨rfl, rfl⟩

def inside (a b : ByteArray) : ByteArray := if b.toList.isEmpty then a else a ++ ⟨#[46]⟩ ++ b

set_option maxHeartbeats 400000 in
theorem within_none (a b : ByteArray) (w : World) (hb : b.toList.isEmpty = true) : Calls Try.prog 36 #[.string a, .string b] w fun e w' => e = .returned (.string a) ∧ w = w' := by
  go_enter Try.func36, Try.ntmps36
  go_wp2
  go_ret
  exact ⟨rfl, rfl⟩

set_option maxHeartbeats 400000 in
theorem within_some (a b : ByteArray) (w : World) (hb : b.toList.isEmpty = false) (hs : a.size + b.size ≤ 1000000) : Calls Try.prog 36 #[.string a, .string b] w fun e w' => e = .returned (.string (a ++ ⟨#[46]⟩ ++ b)) ∧ w = w' := by
  go_enter Try.func36, Try.ntmps36
  go_wp2
  go_ret
  exact ⟨rfl, rfl⟩

theorem within_any (a b : ByteArray) (w : World) (hs : a.size + b.size ≤ 1000000) : Calls Try.prog 36 #[.string a, .string b] w fun e w' => e = .returned (.string (inside a b)) ∧ w = w' := by
  cases hb : b.toList.isEmpty
  · unfold inside; rw [hb]; exact within_some a b w hb hs
  · unfold inside; rw [hb]; exact within_none a b w hb

def fin2 (n : Nat) (w : World) (a : Value) (b : Bool) : World := (w.setCell ⟨n, 0, none⟩ a).setCell ⟨n + 1, 0, none⟩ (.bool b)
def Two (n : Nat) (w : World) : Prop := (∃ v, w.cell? ⟨n, 0, none⟩ = some v) ∧ w.frozen? ⟨n, 0, none⟩ = false ∧ (∃ v, w.cell? ⟨n + 1, 0, none⟩ = some v) ∧ w.frozen? ⟨n + 1, 0, none⟩ = false

set_option maxHeartbeats 400000 in
theorem caught (n : Nat) (x : Option Addr) (older : List PanicEntry) (w : World) (h : Two n w) :
    CallsD Try.prog 37 #[.pointer (some ⟨n, 0, none⟩), .pointer (some ⟨n + 1, 0, none⟩)] (.panicking ({ v := .iface 42 (.pointer x), recovered := false } :: older)) w fun e u' w' =>
      e = .returned (.tuple #[]) ∧ u' = .panicking ({ v := .iface 42 (.pointer x), recovered := true } :: older) ∧ fin2 n w (.pointer x) true = w' := by
  obtain ⟨⟨v1, c1⟩, f1, ⟨v2, c2⟩, f2⟩ := h
  have k1 := tc42
  refine callsD_of_wpS Try.func37 rfl fun c₀ cs hu => ?_
  apply wpS_seq
  apply wpS_region
  simp [wpOpsS, go_sem, recoverD, hu, Try.ntmps37, Exit.thenS]
  clear hu
  refine wpS_of_wp ?_
  change Code.wp _ _ _ ⟨#[.pointer (some ⟨n, 0, none⟩), .pointer (some ⟨n + 1, 0, none⟩), .iface 42 (.pointer x), .iface 42 (.pointer x), undef, undef, undef, undef, undef, undef, undef, undef, undef, undef], []⟩ _
  generalize hQ : (fun (e : Exit) (a' : Act) (w' : World) => bodyPostS _ _ _ _ _ e a' _ w') = Q
  have HQ := Lib.hid hQ
  clear hQ
  go_wp2
  rw [← HQ.out]
  exact ⟨rfl, _, rfl, .tuple #[], by simp [results, Try.results37], rfl, rfl, rfl⟩

set_option maxHeartbeats 400000 in
theorem passed (n : Nat) (x : Int) (older : List PanicEntry) (w : World) (h : Two n w) :
    CallsD Try.prog 37 #[.pointer (some ⟨n, 0, none⟩), .pointer (some ⟨n + 1, 0, none⟩)] (.panicking ({ v := .iface 3 (.int .i64 x), recovered := false } :: older)) w fun e u' w' =>
      e = .panicked [{ v := .iface 3 (.int .i64 x), recovered := false }] ∧ u' = .panicking ({ v := .iface 3 (.int .i64 x), recovered := true } :: older) ∧ fin2 n w (.pointer none) false = w' := by
  obtain ⟨⟨v1, c1⟩, f1, ⟨v2, c2⟩, f2⟩ := h
  have k1 := tc3
  refine callsD_of_wpS Try.func37 rfl fun c₀ cs hu => ?_
  apply wpS_seq
  apply wpS_region
  simp [wpOpsS, go_sem, recoverD, hu, Try.ntmps37, Exit.thenS]
  clear hu
  refine wpS_of_wp ?_
  change Code.wp _ _ _ ⟨#[.pointer (some ⟨n, 0, none⟩), .pointer (some ⟨n + 1, 0, none⟩), .iface 3 (.int .i64 x), .iface 3 (.int .i64 x), undef, undef, undef, undef, undef, undef, undef, undef, undef, undef], []⟩ _
  generalize hQ : (fun (e : Exit) (a' : Act) (w' : World) => bodyPostS _ _ _ _ _ e a' _ w') = Q
  have HQ := Lib.hid hQ
  clear hQ
  go_wp2
  rw [← HQ.out]
  exact ⟨rfl, _, rfl, rfl, rfl, rfl⟩

set_option maxHeartbeats 400000 in
theorem idle (n : Nat) (w : World) :
    CallsD Try.prog 37 #[.pointer (some ⟨n, 0, none⟩), .pointer (some ⟨n + 1, 0, none⟩)] .returning w fun e u' w' =>
      e = .returned (.tuple #[]) ∧ u' = .returning ∧ w = w' := by
  refine callsD_of_wpS Try.func37 rfl fun c₀ cs hu => ?_
  apply wpS_seq
  apply wpS_region
  simp [wpOpsS, go_sem, recoverD, hu, Try.ntmps37, Exit.thenS]
  have hm : { c₀ with mode := .returning } = c₀ := by rw [← hu]
  have HM := Lib.hid hm
  clear hu hm
  refine wpS_of_wp ?_
  change Code.wp _ _ _ ⟨#[.pointer (some ⟨n, 0, none⟩), .pointer (some ⟨n + 1, 0, none⟩), .nilIface, .nilIface, undef, undef, undef, undef, undef, undef, undef, undef, undef, undef], []⟩ _
  generalize hQ : (fun (e : Exit) (a' : Act) (w' : World) => bodyPostS _ _ _ _ _ e a' _ w') = Q
  have HQ := Lib.hid hQ
  clear hQ
  go_wp2
  rw [← HQ.out]
  exact ⟨rfl, .returning, by rw [HM.out], .tuple #[], by simp [results, Try.results37], rfl, rfl, rfl⟩

theorem catch_cps (k : Nat) (first cap : Array Value) (w : World) (R F : Ending → World → Prop)
    (hcf : ∀ (a : Array Value) (w : World), (callFunc k a).run Try.prog w = .ok (.enter k a) w)
    (hcall : Calls Try.prog k (first ++ cap) ((w.alloc (.cells #[.pointer none] 42)).alloc (.cells #[.bool false] 4)) F)
    (h : ∀ e w1, F e w1 → Two w.heap.size w1 ∧ (
      (∃ v, e = .returned v ∧ R (.returned (.tuple #[.pointer none, .bool false])) (fin2 w.heap.size w1 (.pointer none) false)) ∨
      (∃ x older, e = .panicked ({ v := .iface 42 (.pointer x), recovered := false } :: older) ∧ older.dropWhile (!·.goexit) = [] ∧ R (.returned (.tuple #[.pointer x, .bool true])) (fin2 w.heap.size w1 (.pointer x) true)) ∨
      (∃ x older, e = .panicked ({ v := .iface 3 (.int .i64 x), recovered := false } :: older) ∧
        R (.panicked ({ v := .iface 3 (.int .i64 x), recovered := false } :: { v := .iface 3 (.int .i64 x), recovered := true } :: older)) (fin2 w.heap.size w1 (.pointer none) false)))) :
    Calls Try.prog 30 #[.func (.func k) first cap] w R := by
  have hmf : ∀ (fn : Fn) (first cap : Array Value) (w : World), (Instr.makeFunc fn first cap).run Try.prog w = .ok (.func fn first cap) w := fun _ _ _ _ => rfl
  have hnf : ∀ (fn : Fn) (first cap : Array Value) (w : World), (binOp BinOp.eql 1 (.func fn first cap) .nilFunc).run Try.prog w = .ok (.bool false) w := fun _ _ _ _ => by kernel_rfl
  have HC := Lib.hid hcall
  have HH := Lib.hid h
  clear hcall h
  go_enter_defers Try.func30, Try.ntmps30
  go_wp2_with fail
  refine HC.out.mono ?_
  intro e w1 hF
  obtain ⟨⟨⟨v1, c1⟩, f1, ⟨v2, c2⟩, f2⟩, hh⟩ := HH.out e w1 hF
  clear hF
  rcases hh with ⟨v, rfl, hR⟩ | ⟨x, older, rfl, hg, hR⟩ | ⟨x, older, rfl, hR⟩
  · have HR := Lib.hid hR
    clear hR
    go_wp2_with fail
    refine leaves_cons (f := 37) (args := #[.pointer (some ⟨w.heap.size, 0, none⟩), .pointer (some ⟨w.heap.size + 1, 0, none⟩)]) (by simp) (by simp [go_sem]) ?_
    refine (idle w.heap.size _).mono ?_
    rintro e u' w'' ⟨rfl, rfl, rfl⟩
    have HR2 := HR.out
    unfold fin2 at HR2
    simp [Leaves, settle, results, Try.results30, go_sem, c1, c2]
    exact HR2
  · refine leaves_cons (f := 37) (args := #[.pointer (some ⟨w.heap.size, 0, none⟩), .pointer (some ⟨w.heap.size + 1, 0, none⟩)]) (by simp) (by simp [go_sem]) ?_
    refine (caught w.heap.size x older w1 ⟨⟨v1, c1⟩, f1, ⟨v2, c2⟩, f2⟩).mono ?_
    rintro e u' w'' ⟨rfl, rfl, rfl⟩
    unfold fin2 at hR ⊢
    simp [Leaves, settle, results, Try.results30, go_sem, c1, c2, hg]
    exact hR
  · refine leaves_cons (f := 37) (args := #[.pointer (some ⟨w.heap.size, 0, none⟩), .pointer (some ⟨w.heap.size + 1, 0, none⟩)]) (by simp) (by simp [go_sem]) ?_
    refine (passed w.heap.size x older w1 ⟨⟨v1, c1⟩, f1, ⟨v2, c2⟩, f2⟩).mono ?_
    rintro e u' w'' ⟨rfl, rfl, rfl⟩
    exact hR
end Go.Proofs.Ytmjpdncgapbfpaa
