/- What the listed variables give: the two tables stand. And one heap in which they stand so. -/
import Derived.Test.YtbklcelnnmhgkaaDoorMix
import Derived.ProofKit
import Derived.LaidMore
import Derived.OpenShut
import Derived.Stop.Joined
import Derived.Lib.LaidTab
namespace Go.Proofs.YtbklcelnnmhgkaaDoor
open Go.ChangeShapes Go.WideShapes Go.ChangeAt Go.RowKit

theorem ownT : ownKnob Tryd.prog.godebug = none := by kernel_rfl
theorem laidOutT : laidOutB Tryd.prog = true := by kernel_rfl
theorem cells5 : Tryd.prog.cellsOf 5 = 1 := by kernel_rfl

def laid2 : List (String × DataW Unit) := [("crossdock/sha.firstState", Rows.laid_crossdock_sha_firstState), ("crossdock/sha.constants", Rows.laid_crossdock_sha_constants)]
theorem gS : Tryd.prog.globalNamed "crossdock/sha.firstState" = some 0 := by kernel_rfl
theorem gK : Tryd.prog.globalNamed "crossdock/sha.constants" = some 1 := by kernel_rfl
theorem tS : (Tryd.prog.globals[0]?).map (·.type) = some 52 := by kernel_rfl
theorem tK : (Tryd.prog.globals[1]?).map (·.type) = some 53 := by kernel_rfl
theorem c40 : Tryd.prog.cellsOf 51 = 1 := by kernel_rfl
theorem c41 : Tryd.prog.cellsOf 52 = 8 := by kernel_rfl
theorem c42 : Tryd.prog.cellsOf 53 = 64 := by kernel_rfl
def ints (l : List UInt32) : List Int := l.map fun x => (x.toNat : Int)
theorem dS : (Rows.laid_crossdock_sha_firstState : DataW Unit) = Lib.tabData .u32 (ints S0.list) := by kernel_rfl
theorem dK : (Rows.laid_crossdock_sha_constants : DataW Unit) = Lib.tabData .u32 (ints KT) := by kernel_rfl

theorem ints_at (l : List UInt32) (i : Nat) (h : i < l.length) : ((ints l).map fun z => Value.int .u32 z)[i]? = some (U32 (nth l i)) := by
  simp [ints, nth, List.getElem?_eq_getElem h]

/-- The door's own heap meets the condition. -/
theorem door_met (os : Os) (args : Array Value) : laidMetH Tryd.prog laid2 ((World.doorLaid Tryd.prog 400 os).forCall (fun _ _ => 0) ⟨#[], args, []⟩).memory :=
  laidMetH_of_parts3 (fuel := 8) (laidMet_of_run' 8 (by kernel_rfl) (by kernel_rfl)) (by kernel_rfl) (by kernel_rfl)

theorem tabs_of_laid {W : World} (h : laidMetH Tryd.prog laid2 W) : Tabs W := by
  rw [MakeChecks.laidMetH_plain _ _ _ (by kernel_rfl)] at h
  obtain ⟨ps, ⟨g0, t0, cs0, f0, p0, q0, hg0, ht0, hv0, hd0, ⟨g1, t1, cs1, f1, p1, q1, hg1, ht1, hv1, hd1, _, _⟩, _⟩, _, _⟩ := h
  obtain rfl := Option.some.inj (gS.symm.trans hg0)
  obtain rfl := Option.some.inj (gK.symm.trans hg1)
  obtain rfl := Option.some.inj (tS.symm.trans ht0)
  obtain rfl := Option.some.inj (tK.symm.trans ht1)
  rw [dS] at hd0
  rw [dK] at hd1
  have e0 := Lib.cells_of_tab Tryd.underlying52 Tryd.underlying51 c40 c41 hd0
  have e1 := Lib.cells_of_tab Tryd.underlying53 Tryd.underlying51 c40 c42 hd1
  have hk : ∀ i, i < 64 → W.cell? ⟨1, i, none⟩ = some (U32 (nth KT i)) := fun i hi => by
    rw [World.var?_cell hg1 hv1 i, ← Array.getElem?_toList, e1, ints_at KT i hi]
  refine ⟨hk, fun i hi => ?_, ?_⟩
  · rw [World.var?_cell hg0 hv0 i, ← Array.getElem?_toList, e0, ints_at S0.list i hi]
  · have := World.block_lt_of_cell? _ _ (hk 0 (by decide))
    exact this
end Go.Proofs.YtbklcelnnmhgkaaDoor
