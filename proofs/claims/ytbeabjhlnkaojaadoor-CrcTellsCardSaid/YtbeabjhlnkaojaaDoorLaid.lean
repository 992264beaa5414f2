/- What the listed variable gives: the table stands. And one heap in which it stands so. -/
import Derived.Test.YtbeabjhlnkaojaaDoorNum
import Derived.ProofKit
import Derived.LaidMore
import Derived.OpenShut
import Derived.Stop.Joined
import Derived.Lib.LaidTab
namespace Go.Proofs.YtbeabjhlnkaojaaDoor
open Go.ChangeShapes Go.WideShapes Go.ChangeAt Go.RowKit

theorem ownT : ownKnob Tryd.prog.godebug = none := by kernel_rfl
theorem laidOutT : laidOutB Tryd.prog = true := by kernel_rfl
theorem cells5 : Tryd.prog.cellsOf 5 = 1 := by kernel_rfl

def laid2 : List (String × DataW Unit) := [("crossdock/crc.table", Rows.laid_crossdock_crc_table)]
theorem gK : Tryd.prog.globalNamed "crossdock/crc.table" = some 0 := by kernel_rfl
theorem tK : (Tryd.prog.globals[0]?).map (·.type) = some 31 := by kernel_rfl
theorem c22 : Tryd.prog.cellsOf 22 = 1 := by kernel_rfl
theorem c31 : Tryd.prog.cellsOf 31 = 16 := by kernel_rfl
def ints (l : List UInt32) : List Int := l.map fun x => (x.toNat : Int)
theorem dK : (Rows.laid_crossdock_crc_table : DataW Unit) = Lib.tabData .u32 (ints TB) := by kernel_rfl

theorem ints_at (l : List UInt32) (i : Nat) (h : i < l.length) : ((ints l).map fun z => Value.int .u32 z)[i]? = some (U32 (nth l i)) := by
  simp [ints, nth, List.getElem?_eq_getElem h]

/-- The door's own heap meets the condition. -/
theorem door_met (os : Os) (args : Array Value) : laidMetH Tryd.prog laid2 ((World.doorLaid Tryd.prog 400 os).forCall (fun _ _ => 0) ⟨#[], args, []⟩).memory :=
  laidMetH_of_parts3 (fuel := 8) (laidMet_of_run' 8 (by kernel_rfl) (by kernel_rfl)) (by kernel_rfl) (by kernel_rfl)

theorem tabs_of_laid {W : World} (h : laidMetH Tryd.prog laid2 W) : Tabs W := by
  rw [MakeChecks.laidMetH_plain _ _ _ (by kernel_rfl)] at h
  obtain ⟨ps, ⟨g1, t1, cs1, f1, p1, q1, hg1, ht1, hv1, hd1, _, _⟩, _, _⟩ := h
  obtain rfl := Option.some.inj (gK.symm.trans hg1)
  obtain rfl := Option.some.inj (tK.symm.trans ht1)
  rw [dK] at hd1
  have e1 := Lib.cells_of_tab Tryd.underlying31 Tryd.underlying22 c22 c31 hd1
  have hk : ∀ i, i < 16 → W.cell? ⟨0, i, none⟩ = some (U32 (nth TB i)) := fun i hi => by
    rw [World.var?_cell hg1 hv1 i, ← Array.getElem?_toList, e1, ints_at TB i hi]
  refine ⟨hk, ?_⟩
  have := World.block_lt_of_cell? _ _ (hk 0 (by decide))
  exact this
end Go.Proofs.YtbeabjhlnkaojaaDoor
