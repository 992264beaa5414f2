/- Contracts of guard's Try, In and Pass, over whatever function value is handed to them. -/
import Derived.Test.YtmjpdncgapbfpaaBase
namespace Go.Proofs.Ytmjpdncgapbfpaa
open Go.RowKit

set_option maxHeartbeats 400000 in
theorem try_cps (k : Nat) (first cap : Array Value) (w : World) (R F : Ending → World → Prop)
    (hcf : ∀ (a : Array Value) (w : World), (callFunc k a).run Try.prog w = .ok (.enter k a) w)
    (hcall : Calls Try.prog k (first ++ cap) ((w.alloc (.cells #[.pointer none] 42)).alloc (.cells #[.bool false] 4)) F)
    (h : ∀ e w1, F e w1 → Two w.heap.size w1 ∧ (
      (∃ v, e = .returned v ∧ R (.returned .nilIface) (fin2 w.heap.size w1 (.pointer none) false)) ∨
      (∃ x older, e = .panicked ({ v := .iface 42 (.pointer x), recovered := false } :: older) ∧ older.dropWhile (!·.goexit) = [] ∧ R (.returned (.iface 42 (.pointer x))) (fin2 w.heap.size w1 (.pointer x) true)) ∨
      (∃ x older, e = .panicked ({ v := .iface 3 (.int .i64 x), recovered := false } :: older) ∧
        R (.panicked ({ v := .iface 3 (.int .i64 x), recovered := false } :: { v := .iface 3 (.int .i64 x), recovered := true } :: older)) (fin2 w.heap.size w1 (.pointer none) false)))) :
    Calls Try.prog 9 #[.func (.func k) first cap] w R := by
  have HF := Lib.hid hcf
  have HC := Lib.hid hcall
  have HH := Lib.hid h
  clear hcall h hcf
  go_enter Try.func9, Try.ntmps9
  go_wp2_with fail
  refine catch_cps k first cap w _ F HF.out HC.out ?_
  intro e w1 hF
  obtain ⟨h2, hh⟩ := HH.out e w1 hF
  refine ⟨h2, ?_⟩
  clear h2 hF HH
  rcases hh with ⟨v, rfl, hR⟩ | ⟨x, older, rfl, hg, hR⟩ | ⟨x, older, rfl, hR⟩
  · refine .inl ⟨v, rfl, ?_⟩
    have HR := Lib.hid hR
    clear hR
    go_wp2_with fail
    exact HR.out
  · refine .inr (.inl ⟨x, older, rfl, hg, ?_⟩)
    have HR := Lib.hid hR
    clear hR hg
    go_wp2_with fail
    exact HR.out
  · refine .inr (.inr ⟨x, older, rfl, ?_⟩)
    exact ⟨rfl, hR⟩


theorem inside_size (a b : ByteArray) : (inside a b).size ≤ a.size + b.size + 1 := by
  unfold inside
  split
  · omega
  · simp [ByteArray.size_append]; show _ + 1 + _ ≤ _; omega

set_option maxHeartbeats 400000 in
theorem in_cps (t : ByteArray) (k : Nat) (first cap : Array Value) (w : World) (R F : Ending → World → Prop)
    (hcf : ∀ (a : Array Value) (w : World), (callFunc k a).run Try.prog w = .ok (.enter k a) w)
    (hcall : Calls Try.prog k (first ++ cap) ((w.alloc (.cells #[.pointer none] 42)).alloc (.cells #[.bool false] 4)) F)
    (h : ∀ e w1, F e w1 → Two w.heap.size w1 ∧ (
      (∃ v, e = .returned v ∧ R (.returned (.tuple #[])) (fin2 w.heap.size w1 (.pointer none) false)) ∨
      (∃ b o c s older, e = .panicked ({ v := .iface 42 (.pointer (some ⟨b, o, none⟩)), recovered := false } :: older) ∧ older.dropWhile (!·.goexit) = [] ∧ b ≠ w.heap.size ∧ b ≠ w.heap.size + 1 ∧
        w1.cell? ⟨b, o, none⟩ = some (.int .i64 c) ∧ w1.cell? ⟨b, o + 1, none⟩ = some (.string s) ∧ t.size + s.size ≤ 1000000 ∧
        R (.panicked (flt ⟨w1.heap.size, 0, none⟩)) ((fin2 w.heap.size w1 (.pointer (some ⟨b, o, none⟩)) true).alloc (.cells #[.int .i64 c, .string (inside t s)] 45))) ∨
      (∃ x older, e = .panicked ({ v := .iface 3 (.int .i64 x), recovered := false } :: older) ∧
        R (.panicked ({ v := .iface 3 (.int .i64 x), recovered := false } :: { v := .iface 3 (.int .i64 x), recovered := true } :: older)) (fin2 w.heap.size w1 (.pointer none) false)))) :
    Calls Try.prog 19 #[.string t, .func (.func k) first cap] w R := by
  have HF := Lib.hid hcf
  have HC := Lib.hid hcall
  have HH := Lib.hid h
  clear hcall h hcf
  go_enter Try.func19, Try.ntmps19
  go_wp2_with fail
  refine catch_cps k first cap w _ F HF.out HC.out ?_
  intro e w1 hF
  obtain ⟨h2, hh⟩ := HH.out e w1 hF
  refine ⟨h2, ?_⟩
  clear h2 hF HH
  rcases hh with ⟨v, rfl, hR⟩ | ⟨b, o, c, s, older, rfl, hg, hb1, hb2, hc1, hc2, hs, hR⟩ | ⟨x, older, rfl, hR⟩
  · refine .inl ⟨v, rfl, ?_⟩
    have HR := Lib.hid hR
    clear hR
    go_wp2_with fail
    go_end0
    exact HR.out
  · refine .inr (.inl ⟨_, older, rfl, hg, ?_⟩)
    have q1 : (fin2 w.heap.size w1 (.pointer (some ⟨b, o, none⟩)) true).cell? ⟨b, o, none⟩ = some (.int .i64 c) := by
      unfold fin2; rw [World.cell?_setCell_other _ _ _ _ (by intro e; cases e <;> omega), World.cell?_setCell_other _ _ _ _ (by intro e; cases e <;> omega)]; exact hc1
    have q2 : (fin2 w.heap.size w1 (.pointer (some ⟨b, o, none⟩)) true).cell? ⟨b, o + 1, none⟩ = some (.string s) := by
      unfold fin2; rw [World.cell?_setCell_other _ _ _ _ (by intro e; cases e <;> omega), World.cell?_setCell_other _ _ _ _ (by intro e; cases e <;> omega)]; exact hc2
    have q3 : (fin2 w.heap.size w1 (.pointer (some ⟨b, o, none⟩)) true).heap.size = w1.heap.size := by simp [fin2, World.setCell]
    generalize fin2 w.heap.size w1 (.pointer (some ⟨b, o, none⟩)) true = w2 at q1 q2 q3 hR ⊢
    rw [← q3] at hR
    have HR := Lib.hid hR
    clear hR hg q3 hc1 hc2 hb1 hb2
    go_wp2_with fail
    refine (code_fault b o c w2 q1).mono ?_
    rintro e w' ⟨rfl, rfl⟩
    go_wp2_with fail
    refine (where_fault b o s w2 q2).mono ?_
    rintro e w' ⟨rfl, rfl⟩
    go_wp2_with fail
    refine (within_any t s w2 hs).mono ?_
    rintro e w' ⟨rfl, rfl⟩
    go_wp2_with fail
    refine (throw_any c _ w2).mono ?_
    rintro e w' ⟨rfl, rfl⟩
    exact ⟨rfl, HR.out⟩
  · refine .inr (.inr ⟨x, older, rfl, ?_⟩)
    exact ⟨rfl, hR⟩

set_option maxHeartbeats 400000 in
theorem pass_nil (w : World) : Calls Try.prog 25 #[.nilIface] w fun e w' => e = .returned (.tuple #[]) ∧ w = w' := by
  go_enter Try.func25, Try.ntmps25
  go_wp2_with fail
  go_end0
  exact ⟨rfl, rfl⟩

set_option maxHeartbeats 400000 in
theorem pass_errno (c : Int) (w : World) : Calls Try.prog 25 #[.iface 43 (.int .i64 c)] w fun e w' => e = .panicked (flt ⟨w.heap.size, 0, none⟩) ∧ w.alloc (.cells #[.int .i64 c, .string ⟨#[]⟩] 45) = w' := by
  go_enter Try.func25, Try.ntmps25
  go_wp2_with fail
  refine (code_errno c w).mono ?_
  rintro e w' ⟨rfl, rfl⟩
  go_wp2_with fail
  refine (where_errno c w).mono ?_
  rintro e w' ⟨rfl, rfl⟩
  go_wp2_with fail
  refine (throw_any c _ w).mono ?_
  rintro e w' ⟨rfl, rfl⟩
  exact ⟨rfl, rfl, rfl⟩

set_option maxHeartbeats 400000 in
theorem pass_fault (b o : Nat) (c : Int) (s : ByteArray) (w : World) (q1 : w.cell? ⟨b, o, none⟩ = some (.int .i64 c)) (q2 : w.cell? ⟨b, o + 1, none⟩ = some (.string s)) :
    Calls Try.prog 25 #[.iface 42 (.pointer (some ⟨b, o, none⟩))] w fun e w' => e = .panicked (flt ⟨w.heap.size, 0, none⟩) ∧ w.alloc (.cells #[.int .i64 c, .string s] 45) = w' := by
  go_enter Try.func25, Try.ntmps25
  go_wp2_with fail
  refine (code_fault b o c w q1).mono ?_
  rintro e w' ⟨rfl, rfl⟩
  go_wp2_with fail
  refine (where_fault b o s w q2).mono ?_
  rintro e w' ⟨rfl, rfl⟩
  go_wp2_with fail
  refine (throw_any c _ w).mono ?_
  rintro e w' ⟨rfl, rfl⟩
  exact ⟨rfl, rfl, rfl⟩

end Go.Proofs.Ytmjpdncgapbfpaa
