/- Contract of prescale. -/
import Derived.Test.YtfebfkbdbncihaaGreatDoorNtb
namespace Go.Proofs.YtfebfkbdbncihaaGreatDoor
set_option maxRecDepth 100000
open Go.RowKit

/-- Entry i of the library's table of powers of ten, out of its datum. -/
def p10 (i : Nat) : Nat × Nat := match (Go.Pinned.pow10Tab : DataW Unit) with
  | .agg ds => match ds[i]? with
    | some (.agg [.lit (.int _ a), .lit (.int _ b)]) => (a.toNat, b.toNat)
    | _ => (0, 0)
  | _ => (0, 0)
/-- The table of powers of ten stands. -/
structure PTab (w : World) : Prop where
  big : 17 ≤ w.heap.size
  hi : ∀ i, i < 696 → w.cell? ⟨15, i * 2, none⟩ = some (.int .u64 ((p10 i).1 : Int)) ∧ (p10 i).1 < 18446744073709551616
  lo : ∀ i, i < 696 → w.cell? ⟨15, i * 2 + 1, none⟩ = some (.int .u64 ((p10 i).2 : Int)) ∧ (p10 i).2 < 18446744073709551616
theorem PTab.block {w w' : World} (h : PTab w) (hs : w.heap.size ≤ w'.heap.size) (hb : w'.heap[15]? = w.heap[15]?) : PTab w' := by
  have hc : ∀ j, w'.cell? ⟨15, j, none⟩ = w.cell? ⟨15, j, none⟩ := fun j => by unfold World.cell?; dsimp only; rw [hb]
  refine ⟨by have := h.big; omega, fun i hi => ?_, fun i hi => ?_⟩
  · rw [hc]; exact h.hi i hi
  · rw [hc]; exact h.lo i hi
theorem PTab.below {w w' : World} (h : PTab w) (hb : Below w.heap.size w w') : PTab w' := h.block hb.size (hb.block 15 (by have := h.big; omega))
set_option maxHeartbeats 1000000 in
theorem pre_any (g i : Nat) (e p lp : Int) (a b c : Value) (w : World) (hp : p = (i : Int) - 348) (hi : i < 696) (he1 : -100000 ≤ e) (he2 : e ≤ 100000) (hl1 : -100000 ≤ lp) (hl2 : lp ≤ 100000) (hg : 16 < g) (hr : Row w g #[a, b, c] 185) (ht : PTab w) :
    Calls Tryz.prog 138 #[.pointer (some ⟨g, 0, none⟩), .int .i64 e, .int .i64 p, .int .i64 lp] w fun en w' => en = .returned (.tuple #[]) ∧ Row w' g #[.int .u64 ((p10 i).1 : Int), .int .u64 ((p10 i).2 : Int), .int .i64 (-(e + lp + 3))] 185 ∧ w.grownBy w' (some g) := by
  have n0 : w.cell? ⟨g, 0, none⟩ = some a := hr.cell 0
  have n1 : w.cell? ⟨g, 1, none⟩ = some b := hr.cell 1
  have n2 : w.cell? ⟨g, 2, none⟩ = some c := hr.cell 2
  have f0 : ∀ j, w.frozen? ⟨g, j, none⟩ = false := fun j => hr.thawed j
  have p1 := (ht.hi i hi).1
  have p2 := (ht.lo i hi).1
  have hx : p + 348 = (i : Int) := by omega
  have HR := Lib.hid hr
  have hne : ¬ 15 = g := by omega
  have hne2 : ¬ g = 15 := by omega
  clear hr ht hp
  generalize (p10 i).1 = A at p1 ⊢
  generalize (p10 i).2 = B at p2 ⊢
  go_enter Tryz.func138, Tryz.ntmps138
  go_wp2_with fail
  go_end0
  exact ⟨rfl, by have := ((HR.out.set 0 (.int .u64 (A : Int))).set 1 (.int .u64 (B : Int))).set 2 (.int .i64 (-(e + lp + 3))); exact this, ((grown_setCell w g 0 _).trans (grown_setCell _ g 1 _)).trans (grown_setCell _ g 2 _)⟩
end Go.Proofs.YtfebfkbdbncihaaGreatDoor
