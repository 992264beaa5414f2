/- What the listed variables give: the two tables stand. And one heap in which they stand so. -/
import Derived.Test.YtpnnlhegncbfaaaGreatDoorRows
import Derived.Test.YtpnnlhegncbfaaaGreatDoorGroupI
import Derived.Test.YtpnnlhegncbfaaaGreatDoorCnu
import Derived.ProofKit
import Derived.LaidMore
import Derived.OpenShut
import Derived.Stop.Joined
import Derived.Lib.LaidTab
namespace Go.Proofs.YtpnnlhegncbfaaaGreatDoor
open Go.ChangeShapes Go.WideShapes Go.ChangeAt Go.RowKit

def laid2 : List (String × DataW Unit) := [("crossdock/crc.table", Rows.laid_crossdock_crc_table), ("crossdock/inflate.helperOrder", Rows.laid_crossdock_inflate_helperOrder)]
theorem gC : Tryz.prog.globalNamed "crossdock/crc.table" = some 0 := by kernel_rfl
theorem gK : Tryz.prog.globalNamed "crossdock/inflate.helperOrder" = some 2 := by kernel_rfl
theorem tC : (Tryz.prog.globals[0]?).map (·.type) = some 111 := by kernel_rfl
theorem tK : (Tryz.prog.globals[2]?).map (·.type) = some 175 := by kernel_rfl
theorem c3 : Tryz.prog.cellsOf 3 = 1 := by kernel_rfl
theorem c50 : Tryz.prog.cellsOf 50 = 1 := by kernel_rfl
theorem c111 : Tryz.prog.cellsOf 111 = 16 := by kernel_rfl
theorem c175 : Tryz.prog.cellsOf 175 = 19 := by kernel_rfl
def cints (l : List UInt32) : List Int := l.map fun x => (x.toNat : Int)
def placesI : List Int := places.map fun (x : Nat) => (x : Int)
theorem dC : (Rows.laid_crossdock_crc_table : DataW Unit) = Lib.tabData .u32 (cints ctb) := by kernel_rfl
theorem dK : (Rows.laid_crossdock_inflate_helperOrder : DataW Unit) = Lib.tabData .i64 placesI := by kernel_rfl
theorem cints_at (l : List UInt32) (i : Nat) (h : i < l.length) : ((cints l).map fun z => Value.int .u32 z)[i]? = some (U32 (nth l i)) := by
  simp [cints, nth, List.getElem?_eq_getElem h]
theorem places_at (i : Nat) (h : i < 19) : (placesI.map fun z => Value.int .i64 z)[i]? = some (.int .i64 (places.getD i 0 : Int)) := by
  have hl : i < places.length := h
  simp only [placesI, List.map_map, List.getElem?_map, List.getElem?_eq_getElem hl, List.getD_eq_getElem?_getD, Option.map_some, Option.getD_some]
  rfl

/-- The door's own heap meets the condition. -/
theorem door_met (os : Os) (args : Array Value) : laidMetH Tryz.prog laid2 ((World.doorLaid Tryz.prog 400 os).forCall (fun _ _ => 0) ⟨#[], args, []⟩).memory :=
  laidMetH_of_parts3 (fuel := 8) (laidMet_of_run' 8 (by kernel_rfl) (by kernel_rfl)) (by kernel_rfl) (by kernel_rfl)

theorem tabs_of_laid {W : World} (h : laidMetH Tryz.prog laid2 W) : Tabs W ∧ Tab W ∧ 2 < W.heap.size := by
  rw [MakeChecks.laidMetH_plain _ _ _ (by kernel_rfl)] at h
  obtain ⟨ps, ⟨g0, t0, cs0, f0, p0, q0, hg0, ht0, hv0, hd0, ⟨g1, t1, cs1, f1, p1, q1, hg1, ht1, hv1, hd1, _, _⟩, _⟩, _, _⟩ := h
  obtain rfl := Option.some.inj (gC.symm.trans hg0)
  obtain rfl := Option.some.inj (gK.symm.trans hg1)
  obtain rfl := Option.some.inj (tC.symm.trans ht0)
  obtain rfl := Option.some.inj (tK.symm.trans ht1)
  rw [dC] at hd0
  rw [dK] at hd1
  have e0 := Lib.cells_of_tab Tryz.underlying111 Tryz.underlying50 c50 c111 hd0
  have e1 := Lib.cells_of_tab Tryz.underlying175 Tryz.underlying3 c3 c175 hd1
  have hk : Tab W := fun i hi => by
    rw [World.var?_cell hg1 hv1 i, ← Array.getElem?_toList, e1, places_at i hi]
  have hc : ∀ i, i < 16 → W.cell? ⟨0, i, none⟩ = some (U32 (nth ctb i)) := fun i hi => by
    rw [World.var?_cell hg0 hv0 i, ← Array.getElem?_toList, e0, cints_at ctb i hi]
  have h2 : 2 < W.heap.size := World.block_lt_of_cell? _ _ (hk 0 (by decide))
  exact ⟨⟨hc, by omega⟩, hk, h2⟩
end Go.Proofs.YtpnnlhegncbfaaaGreatDoor
