/- What the listed variable gives: the table stands. And one heap in which it stands so. -/
import Derived.Test.YtpnnlhegncbfaaaDoorGroupI
import Derived.Test.YtpnnlhegncbfaaaDoorGroupW
import Derived.Test.YtpnnlhegncbfaaaDoorOpen
import Derived.ProofKit
import Derived.LaidMore
import Derived.OpenShut
import Derived.Stop.Joined
import Derived.Lib.LaidTab
namespace Go.Proofs.YtpnnlhegncbfaaaDoor
open Go.ChangeShapes Go.WideShapes Go.ChangeAt Go.RowKit


def laidI : List (String × DataW Unit) := [("crossdock/inflate.helperOrder", Rows.laid_crossdock_inflate_helperOrder)]
theorem gK : Tryd.prog.globalNamed "crossdock/inflate.helperOrder" = some 1 := by kernel_rfl
theorem tK : (Tryd.prog.globals[1]?).map (·.type) = some 148 := by kernel_rfl
theorem c3 : Tryd.prog.cellsOf 3 = 1 := by kernel_rfl
theorem c148 : Tryd.prog.cellsOf 148 = 19 := by kernel_rfl
def placesI : List Int := places.map fun (x : Nat) => (x : Int)
theorem dK : (Rows.laid_crossdock_inflate_helperOrder : DataW Unit) = Lib.tabData .i64 placesI := by kernel_rfl

theorem places_at (i : Nat) (h : i < 19) : (placesI.map fun z => Value.int .i64 z)[i]? = some (.int .i64 (places.getD i 0 : Int)) := by
  have hl : i < places.length := h
  simp only [placesI, List.map_map, List.getElem?_map, List.getElem?_eq_getElem hl, List.getD_eq_getElem?_getD, Option.map_some, Option.getD_some]
  rfl

/-- The door's own heap meets the condition. -/
theorem door_metI (os : Os) (args : Array Value) : laidMetH Tryd.prog laidI ((World.doorLaid Tryd.prog 400 os).forCall (fun _ _ => 0) ⟨#[], args, []⟩).memory :=
  laidMetH_of_parts3 (fuel := 8) (laidMet_of_run' 8 (by kernel_rfl) (by kernel_rfl)) (by kernel_rfl) (by kernel_rfl)

theorem tab_of_laid {W : World} (h : laidMetH Tryd.prog laidI W) : Tab W ∧ 1 < W.heap.size := by
  rw [MakeChecks.laidMetH_plain _ _ _ (by kernel_rfl)] at h
  obtain ⟨ps, ⟨g1, t1, cs1, f1, p1, q1, hg1, ht1, hv1, hd1, _, _⟩, _, _⟩ := h
  obtain rfl := Option.some.inj (gK.symm.trans hg1)
  obtain rfl := Option.some.inj (tK.symm.trans ht1)
  rw [dK] at hd1
  have e1 := Lib.cells_of_tab Tryd.underlying148 Tryd.underlying3 c3 c148 hd1
  have hk : Tab W := fun i hi => by
    rw [World.var?_cell hg1 hv1 i, ← Array.getElem?_toList, e1, places_at i hi]
  refine ⟨hk, ?_⟩
  have := World.block_lt_of_cell? _ _ (hk 0 (by decide))
  exact this
def laidC : List (String × DataW Unit) := [("crossdock/crc.table", Rows.laid_crossdock_crc_table)]
theorem gC : Tryd.prog.globalNamed "crossdock/crc.table" = some 0 := by kernel_rfl
theorem tC : (Tryd.prog.globals[0]?).map (·.type) = some 126 := by kernel_rfl
theorem c63 : Tryd.prog.cellsOf 63 = 1 := by kernel_rfl
theorem c126 : Tryd.prog.cellsOf 126 = 16 := by kernel_rfl
def cints (l : List UInt32) : List Int := l.map fun x => (x.toNat : Int)
theorem dC : (Rows.laid_crossdock_crc_table : DataW Unit) = Lib.tabData .u32 (cints ctb) := by kernel_rfl

theorem cints_at (l : List UInt32) (i : Nat) (h : i < l.length) : ((cints l).map fun z => Value.int .u32 z)[i]? = some (U32 (nth l i)) := by
  simp [cints, nth, List.getElem?_eq_getElem h]

/-- The door's own heap meets the condition. -/
theorem door_metC (os : Os) (args : Array Value) : laidMetH Tryd.prog laidC ((World.doorLaid Tryd.prog 400 os).forCall (fun _ _ => 0) ⟨#[], args, []⟩).memory :=
  laidMetH_of_parts3 (fuel := 8) (laidMet_of_run' 8 (by kernel_rfl) (by kernel_rfl)) (by kernel_rfl) (by kernel_rfl)

theorem tabs_of_laid {W : World} (h : laidMetH Tryd.prog laidC W) : Tabs W := by
  rw [MakeChecks.laidMetH_plain _ _ _ (by kernel_rfl)] at h
  obtain ⟨ps, ⟨g1, t1, cs1, f1, p1, q1, hg1, ht1, hv1, hd1, _, _⟩, _, _⟩ := h
  obtain rfl := Option.some.inj (gC.symm.trans hg1)
  obtain rfl := Option.some.inj (tC.symm.trans ht1)
  rw [dC] at hd1
  have e1 := Lib.cells_of_tab Tryd.underlying126 Tryd.underlying63 c63 c126 hd1
  have hk : ∀ i, i < 16 → W.cell? ⟨0, i, none⟩ = some (U32 (nth ctb i)) := fun i hi => by
    rw [World.var?_cell hg1 hv1 i, ← Array.getElem?_toList, e1, cints_at ctb i hi]
  refine ⟨hk, ?_⟩
  have := World.block_lt_of_cell? _ _ (hk 0 (by decide))
  exact this
end Go.Proofs.YtpnnlhegncbfaaaDoor
