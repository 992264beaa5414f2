/- What the listed variable gives: the table stands. And one heap in which it stands so. -/
import Derived.Test.YtjipjclbhdgkoaaDoorMch
import Derived.ProofKit
import Derived.LaidMore
import Derived.OpenShut
import Derived.Stop.Joined
import Derived.Lib.LaidTab
namespace Go.Proofs.YtjipjclbhdgkoaaDoor
open Go.ChangeShapes Go.WideShapes Go.ChangeAt Go.RowKit

theorem ownT : ownKnob Tryd.prog.godebug = none := by kernel_rfl
theorem laidOutT : laidOutB Tryd.prog = true := by kernel_rfl
theorem cells5 : Tryd.prog.cellsOf 5 = 1 := by kernel_rfl

def laid2 : List (String × DataW Unit) := [("crossdock/inflate.helperOrder", Rows.laid_crossdock_inflate_helperOrder)]
theorem gK : Tryd.prog.globalNamed "crossdock/inflate.helperOrder" = some 0 := by kernel_rfl
theorem tK : (Tryd.prog.globals[0]?).map (·.type) = some 110 := by kernel_rfl
theorem c3 : Tryd.prog.cellsOf 3 = 1 := by kernel_rfl
theorem c110 : Tryd.prog.cellsOf 110 = 19 := by kernel_rfl
def placesI : List Int := places.map fun (x : Nat) => (x : Int)
theorem dK : (Rows.laid_crossdock_inflate_helperOrder : DataW Unit) = Lib.tabData .i64 placesI := by kernel_rfl

theorem places_at (i : Nat) (h : i < 19) : (placesI.map fun z => Value.int .i64 z)[i]? = some (.int .i64 (places.getD i 0 : Int)) := by
  have hl : i < places.length := h
  simp only [placesI, List.map_map, List.getElem?_map, List.getElem?_eq_getElem hl, List.getD_eq_getElem?_getD, Option.map_some, Option.getD_some]
  rfl

/-- The door's own heap meets the condition. -/
theorem door_met (os : Os) (args : Array Value) : laidMetH Tryd.prog laid2 ((World.doorLaid Tryd.prog 400 os).forCall (fun _ _ => 0) ⟨#[], args, []⟩).memory :=
  laidMetH_of_parts3 (fuel := 8) (laidMet_of_run' 8 (by kernel_rfl) (by kernel_rfl)) (by kernel_rfl) (by kernel_rfl)

theorem tabs_of_laid {W : World} (h : laidMetH Tryd.prog laid2 W) : Tab W ∧ 0 < W.heap.size := by
  rw [MakeChecks.laidMetH_plain _ _ _ (by kernel_rfl)] at h
  obtain ⟨ps, ⟨g1, t1, cs1, f1, p1, q1, hg1, ht1, hv1, hd1, _, _⟩, _, _⟩ := h
  obtain rfl := Option.some.inj (gK.symm.trans hg1)
  obtain rfl := Option.some.inj (tK.symm.trans ht1)
  rw [dK] at hd1
  have e1 := Lib.cells_of_tab Tryd.underlying110 Tryd.underlying3 c3 c110 hd1
  have hk : Tab W := fun i hi => by
    rw [World.var?_cell hg1 hv1 i, ← Array.getElem?_toList, e1, places_at i hi]
  refine ⟨hk, ?_⟩
  have := World.block_lt_of_cell? _ _ (hk 0 (by decide))
  exact this
end Go.Proofs.YtjipjclbhdgkoaaDoor
