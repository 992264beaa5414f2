/- What the listed variable gives: the table stands. And one heap in which it stands so. -/
/- What a slice of bytes that comes in as an argument gives. -/
import Derived.Test.YtjipjclbhdgkoaaDoorMch
import Derived.ProofKit
import Derived.LaidMore
import Derived.OpenShut
import Derived.Stop.Joined
import Derived.Lib.LaidTab
import Derived.Test.YtjipjclbhdgkoaaDoorGroupA
namespace Go.Proofs.YtjipjclbhdgkoaaDoor
open Go.ChangeShapes Go.WideShapes Go.ChangeAt Go.RowKit

theorem ownT : ownKnob Tryd.prog.godebug = none := by kernel_rfl
theorem laidOutT : laidOutB Tryd.prog = true := by kernel_rfl
theorem cells5 : Tryd.prog.cellsOf 5 = 1 := by kernel_rfl

def laid2 : List (String × DataW Unit) := [("crossdock/inflate.helperOrder", Rows.laid_crossdock_inflate_helperOrder)]
theorem gK : Tryd.prog.globalNamed "crossdock/inflate.helperOrder" = some 0 := by kernel_rfl
theorem tK : (Tryd.prog.globals[0]?).map (·.type) = some 110 := by kernel_rfl
theorem c3 : Tryd.prog.cellsOf 3 = 1 := by kernel_rfl
theorem c110 : Tryd.prog.cellsOf 110 = 19 := by kernel_rfl
def placesI : List Int := places.map fun (x : Nat) => (x : Int)
theorem dK : (Rows.laid_crossdock_inflate_helperOrder : DataW Unit) = Lib.tabData .i64 placesI := by kernel_rfl

theorem places_at (i : Nat) (h : i < 19) : (placesI.map fun z => Value.int .i64 z)[i]? = some (.int .i64 (places.getD i 0 : Int)) := by
  have hl : i < places.length := h
  simp only [placesI, List.map_map, List.getElem?_map, List.getElem?_eq_getElem hl, List.getD_eq_getElem?_getD, Option.map_some, Option.getD_some]
  rfl

/-- The door's own heap meets the condition. -/
theorem door_met (os : Os) (args : Array Value) : laidMetH Tryd.prog laid2 ((World.doorLaid Tryd.prog 400 os).forCall (fun _ _ => 0) ⟨#[], args, []⟩).memory :=
  laidMetH_of_parts3 (fuel := 8) (laidMet_of_run' 8 (by kernel_rfl) (by kernel_rfl)) (by kernel_rfl) (by kernel_rfl)

theorem tabs_of_laid {W : World} (h : laidMetH Tryd.prog laid2 W) : Tab W ∧ 0 < W.heap.size := by
  rw [MakeChecks.laidMetH_plain _ _ _ (by kernel_rfl)] at h
  obtain ⟨ps, ⟨g1, t1, cs1, f1, p1, q1, hg1, ht1, hv1, hd1, _, _⟩, _, _⟩ := h
  obtain rfl := Option.some.inj (gK.symm.trans hg1)
  obtain rfl := Option.some.inj (tK.symm.trans ht1)
  rw [dK] at hd1
  have e1 := Lib.cells_of_tab Tryd.underlying110 Tryd.underlying3 c3 c110 hd1
  have hk : Tab W := fun i hi => by
    rw [World.var?_cell hg1 hv1 i, ← Array.getElem?_toList, e1, places_at i hi]
  refine ⟨hk, ?_⟩
  have := World.block_lt_of_cell? _ _ (hk 0 (by decide))
  exact this
end Go.Proofs.YtjipjclbhdgkoaaDoor
namespace Go.Proofs.YtjipjclbhdgkoaaDoor
open Go.ChangeShapes Go.WideShapes Go.ChangeAt Go.RowKit


set_option maxRecDepth 40000 in
theorem open8 {H : Type} {enc : TypeId × Value → H} {W : World} {base : Nat} {v : Value} {d : DataW H} {p : List MemPlace} (hval : Value.okWide Tryd.prog W .any base 22 v) (h : DataW.Trod enc Tryd.prog W 0 (fun _ => true) true 22 v d p) :
    ∃ A n c l, v = .slice A n c ∧ (A = none → c = 0) ∧ Rd W W.heap.size A n (us l) ∧ n ≤ c := by
  obtain ⟨a0, len, cap, rfl⟩ := okWide_slice Tryd.underlying22 hval
  obtain ⟨fuel, hf⟩ := h
  rcases open_ints Tryd.underlying22 Tryd.underlying5 cells5 hf with ⟨hcs, hx⟩ | ⟨a, len', cap', zs, hcs, _, hl, hm, hz, hx, hcell, hwz⟩
  · simp [Value.cells] at hcs
    obtain ⟨rfl, rfl, rfl⟩ := hcs
    exact ⟨none, 0, 0, [], rfl, fun _ => rfl, ⟨rfl, fun h => absurd h (by decide)⟩, Nat.le_refl _⟩
  · simp [Value.cells] at hcs
    obtain ⟨rfl, rfl, rfl⟩ := hcs
    simp only [if_true] at hz
    refine ⟨some a, len, cap, (zs.take len).map fun n => UInt8.ofNat n.toNat, rfl, (fun h => by cases h), ⟨by rw [us_length, List.length_map, List.length_take]; omega, fun hp => ?_⟩, by omega⟩
    obtain ⟨b, off, spot⟩ := a
    have h0 := hcell 0 (by omega)
    have hspot : spot = none := by simpa [Addr.add] using World.cell?_spot h0
    subst hspot
    refine ⟨b, off, rfl, World.block_lt_of_cell? _ _ h0, fun j u hu => ?_⟩
    have hj : j < len := by
      have := (List.getElem?_eq_some_iff.1 hu).1
      rw [us_length, List.length_map, List.length_take] at this
      omega
    have hc := hcell j (by omega)
    rw [Go.WideShapes.add_plain] at hc
    rw [hc, ← hu]
    have hzj : zs[j]? = some zs[j] := List.getElem?_eq_getElem (by omega)
    have hw := hwz _ (List.getElem_mem (l := zs) (n := j) (by omega))
    simp only [us, List.map_map, List.getElem?_map, List.getElem?_take, if_pos hj, hzj, Option.map_some, List.getD, Option.getD_some]
    generalize zs[j] = z at hw
    have hb : 0 ≤ z ∧ z < 256 := by
      simp [Lit.wf, IntKind.min, IntKind.max, IntKind.signed, IntKind.bits] at hw
      omega
    show _ = some (Value.int .u8 ((UInt8.ofNat z.toNat).toNat : Int))
    rw [UInt8.toNat_ofNat']
    congr 2
    omega

end Go.Proofs.YtjipjclbhdgkoaaDoor
