
/- What a slice of bytes gives as an argument, with its room. -/
import Derived.Test.YtpnnlhegncbfaaaDoorOpen
namespace Go.Proofs.YtpnnlhegncbfaaaDoor
set_option maxRecDepth 20000
open Go.ChangeShapes Go.WideShapes Go.ChangeAt Go.RowKit
open Go.WideMaps Go.WideElems

set_option maxRecDepth 100000 in
theorem open8mc {H : Type} {enc : TypeId × Value → H} {W : World} {fuel : Nat} {cs : List Value} {y : DataW H × List MemPlace} (hf : DataW.trod enc Tryd.prog W 0 (fun _ => true) true fuel 22 cs = some y) :
    ∃ A n c l, cs = [.slice A n c] ∧ (A = none → c = 0) ∧ Rd W W.heap.size A n (us l) ∧ n ≤ c ∧ c ≤ 9223372036854775807 := by
  rcases open_ints Tryd.underlying22 Tryd.underlying5 cells5 hf with ⟨hcs, hx⟩ | ⟨a, len, cap, zs, hcs, _, hl, hm, hz, hx, hcell, hwz⟩
  · exact ⟨none, 0, 0, [], hcs, fun _ => rfl, ⟨rfl, fun h => absurd h (by decide)⟩, Nat.le_refl _, by decide⟩
  · simp only [if_true] at hz
    refine ⟨some a, len, cap, (zs.take len).map fun n => UInt8.ofNat n.toNat, hcs, (fun h => by cases h), ⟨by rw [us_length, List.length_map, List.length_take]; omega, fun hp => ?_⟩, by omega, hm⟩
    obtain ⟨b, off, spot⟩ := a
    have h0 := hcell 0 (by omega)
    have hspot : spot = none := by simpa [Addr.add] using World.cell?_spot h0
    subst hspot
    refine ⟨b, off, rfl, World.block_lt_of_cell? _ _ h0, fun j u hu => ?_⟩
    have hj : j < len := by
      have := (List.getElem?_eq_some_iff.1 hu).1
      rw [us_length, List.length_map, List.length_take] at this
      omega
    have hc := hcell j (by omega)
    rw [Go.WideShapes.add_plain] at hc
    rw [hc, ← hu]
    have hzj : zs[j]? = some zs[j] := List.getElem?_eq_getElem (by omega)
    have hw := hwz _ (List.getElem_mem (l := zs) (n := j) (by omega))
    simp only [us, List.map_map, List.getElem?_map, List.getElem?_take, if_pos hj, hzj, Option.map_some, List.getD, Option.getD_some]
    generalize zs[j] = z at hw
    have hb : 0 ≤ z ∧ z < 256 := by
      simp [Lit.wf, IntKind.min, IntKind.max, IntKind.signed, IntKind.bits] at hw
      omega
    show _ = some (Value.int .u8 ((UInt8.ofNat z.toNat).toNat : Int))
    rw [UInt8.toNat_ofNat']
    congr 2
    omega

set_option maxRecDepth 100000 in
theorem open8m {H : Type} {enc : TypeId × Value → H} {W : World} {base : Nat} {v : Value} {d : DataW H} {p : List MemPlace} (hval : Value.okWide Tryd.prog W .any base 22 v) (h : DataW.Trod enc Tryd.prog W 0 (fun _ => true) true 22 v d p) :
    ∃ A n c l, v = .slice A n c ∧ (A = none → c = 0) ∧ Rd W W.heap.size A n (us l) ∧ n ≤ c ∧ c ≤ 9223372036854775807 := by
  obtain ⟨a0, len, cap, rfl⟩ := okWide_slice Tryd.underlying22 hval
  obtain ⟨fuel, hf⟩ := h
  obtain ⟨A, n, c, l, hcs, hA, hr, hn⟩ := open8mc hf
  simp [Value.cells] at hcs
  obtain ⟨rfl, rfl, rfl⟩ := hcs
  exact ⟨_, _, _, l, rfl, hA, hr, hn⟩
end Go.Proofs.YtpnnlhegncbfaaaDoor
