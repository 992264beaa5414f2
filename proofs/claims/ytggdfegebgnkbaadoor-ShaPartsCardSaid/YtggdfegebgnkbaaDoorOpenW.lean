/- What a slice of slices of bytes that comes in as an argument gives. -/
import Derived.Test.YtggdfegebgnkbaaDoorOf
import Derived.Test.YtggdfegebgnkbaaDoorOpen
import Derived.Deep.Fields
namespace Go.Proofs.YtggdfegebgnkbaaDoor
open Go.ChangeShapes Go.WideShapes Go.ChangeAt Go.RowKit

theorem core8 {H : Type} {enc : TypeId × Value → H} {W : World} {fuel : Nat} {cs : List Value} {y : DataW H × List MemPlace} (hf : DataW.trod enc Tryd.prog W 0 (fun _ => true) true fuel 22 cs = some y) :
    ∃ A n c l, cs = [.slice A n c] ∧ (A = none → c = 0) ∧ Rd W W.heap.size A n (us l) := by
  rcases open_ints Tryd.underlying22 Tryd.underlying5 cells5 hf with ⟨hcs, hx⟩ | ⟨a, len, cap, zs, hcs, _, hl, hm, hz, hx, hcell, hwz⟩
  · subst hcs
    exact ⟨none, 0, 0, [], rfl, fun _ => rfl, rfl, fun h => absurd h (by decide)⟩
  · subst hcs
    simp only [if_true] at hz
    refine ⟨some a, len, cap, (zs.take len).map fun n => UInt8.ofNat n.toNat, rfl, (fun h => by cases h), by rw [us_length, List.length_map, List.length_take]; omega, fun hp => ?_⟩
    obtain ⟨b, off, spot⟩ := a
    have h0 := hcell 0 (by omega)
    have hspot : spot = none := by simpa [Addr.add] using World.cell?_spot h0
    subst hspot
    refine ⟨b, off, rfl, World.block_lt_of_cell? _ _ h0, fun j u hu => ?_⟩
    have hj : j < len := by
      have := (List.getElem?_eq_some_iff.1 hu).1
      rw [us_length, List.length_map, List.length_take] at this
      omega
    have hc := hcell j (by omega)
    rw [Go.WideShapes.add_plain] at hc
    rw [hc, ← hu]
    have hzj : zs[j]? = some zs[j] := List.getElem?_eq_getElem (by omega)
    have hw := hwz _ (List.getElem_mem (l := zs) (n := j) (by omega))
    simp only [us, List.map_map, List.getElem?_map, List.getElem?_take, if_pos hj, hzj, Option.map_some, List.getD, Option.getD_some]
    generalize zs[j] = z at hw
    have hb : 0 ≤ z ∧ z < 256 := by
      simp [Lit.wf, IntKind.min, IntKind.max, IntKind.signed, IntKind.bits] at hw
      omega
    show _ = some (Value.int .u8 ((UInt8.ofNat z.toNat).toNat : Int))
    rw [UInt8.toNat_ofNat']
    congr 2
    omega

theorem cells22 : Tryd.prog.cellsOf 22 = 1 := by kernel_rfl

theorem openW {H : Type} {enc : TypeId × Value → H} {W : World} {base : Nat} {v : Value} {d : DataW H} {p : List MemPlace} (hval : Value.okWide Tryd.prog W .any base 29 v) (h : DataW.Trod enc Tryd.prog W 0 (fun _ => true) true 29 v d p) :
    ∃ A n c vs ls, v = .slice A n c ∧ RdP W A n vs ls := by
  obtain ⟨a0, len, cap, rfl⟩ := okWide_slice Tryd.underlying29 hval
  obtain ⟨fuel, hf⟩ := h
  rcases Go.Deep.open_slice Tryd.underlying29 hf with ⟨hcs, hx⟩ | ⟨a, len', cap', m, n, D, Pl, hcs, _, hl, hm, hmm, hx, hall⟩
  · simp [Value.cells] at hcs
    obtain ⟨rfl, rfl, rfl⟩ := hcs
    exact ⟨none, 0, 0, [], [], rfl, RdP.nil W⟩
  · simp [Value.cells] at hcs
    obtain ⟨rfl, rfl, rfl⟩ := hcs
    simp only [if_true] at hmm
    rw [cells22] at hall
    obtain ⟨F, hF⟩ := Go.Deep.choose_lt (α := Value × List UInt8) (n := len) (p := fun i x => W.cell? (a.add (i * 1)) = some x.1 ∧ ∃ (A' : Option Addr) (n' c' : Nat), x.1 = Value.slice A' n' c' ∧ (A' = none → c' = 0) ∧ Rd W W.heap.size A' n' (us x.2)) (fun i hi => by
      obtain ⟨cs, hc, ht⟩ := hall i (by omega)
      obtain ⟨_, hlen, hcell⟩ := World.cells?_some hc
      obtain ⟨A', n', c', l, rfl, hz, hrd⟩ := core8 ht
      have c0 := hcell 0 (by decide)
      rw [Go.Deep.add_add] at c0
      exact ⟨(.slice A' n' c', l), c0, A', n', c', rfl, hz, hrd⟩)
    refine ⟨some a, len, cap, (List.range len).map fun i => (F i).1, (List.range len).map fun i => (F i).2, rfl, by simp, by simp, fun hp => ?_, fun j u l hu hl => ?_⟩
    · obtain ⟨b, off, spot⟩ := a
      have h0 := (hF 0 hp).1
      have hspot : spot = none := by simpa [Addr.add] using World.cell?_spot h0
      subst hspot
      refine ⟨b, off, rfl, World.block_lt_of_cell? _ _ h0, fun i x hi => ?_⟩
      have hj : i < len := by
        have := (List.getElem?_eq_some_iff.1 hi).1
        simpa using this
      rw [List.getElem?_map, List.getElem?_range hj] at hi
      have a1 := (hF i hj).1
      rw [Go.WideShapes.add_plain, Nat.mul_one] at a1
      rw [a1, ← hi]
      rfl
    · have hj : j < len := by
        have := (List.getElem?_eq_some_iff.1 hu).1
        simpa using this
      rw [List.getElem?_map, List.getElem?_range hj] at hu hl
      injection hu with hu
      injection hl with hl
      subst hu hl
      exact (hF j hj).2
end Go.Proofs.YtggdfegebgnkbaaDoor
