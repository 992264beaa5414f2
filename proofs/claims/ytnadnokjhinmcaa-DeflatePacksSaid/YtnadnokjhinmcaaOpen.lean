/- What the arguments give: a slice of bytes, a slice of tokens. -/
import Derived.Test.YtnadnokjhinmcaaTok
import Derived.ProofKit
import Derived.Deep.Fields
namespace Go.Proofs.Ytnadnokjhinmcaa
open Go.ChangeShapes Go.WideShapes Go.ChangeAt Go.RowKit
open Go.WideMaps Go.WideElems

theorem ownT : ownKnob Try.prog.godebug = none := by kernel_rfl
theorem laidOutT : laidOutB Try.prog = true := by kernel_rfl
theorem cells5 : Try.prog.cellsOf 5 = 1 := by kernel_rfl
theorem cells3 : Try.prog.cellsOf 3 = 1 := by kernel_rfl
theorem cells45 : Try.prog.cellsOf 45 = 3 := by kernel_rfl

set_option maxRecDepth 100000 in
theorem open8c {H : Type} {enc : TypeId × Value → H} {W : World} {fuel : Nat} {cs : List Value} {y : DataW H × List MemPlace} (hf : DataW.trod enc Try.prog W 0 (fun _ => true) true fuel 22 cs = some y) :
    ∃ A n c l, cs = [.slice A n c] ∧ (A = none → c = 0) ∧ Rd W W.heap.size A n (us l) := by
  rcases open_ints Try.underlying22 Try.underlying5 cells5 hf with ⟨hcs, hx⟩ | ⟨a, len, cap, zs, hcs, _, hl, hm, hz, hx, hcell, hwz⟩
  · exact ⟨none, 0, 0, [], hcs, fun _ => rfl, rfl, fun h => absurd h (by decide)⟩
  · simp only [if_true] at hz
    refine ⟨some a, len, cap, (zs.take len).map fun n => UInt8.ofNat n.toNat, hcs, (fun h => by cases h), by rw [us_length, List.length_map, List.length_take]; omega, fun hp => ?_⟩
    obtain ⟨b, off, spot⟩ := a
    have h0 := hcell 0 (by omega)
    have hspot : spot = none := by simpa [Addr.add] using World.cell?_spot h0
    subst hspot
    refine ⟨b, off, rfl, World.block_lt_of_cell? _ _ h0, fun j u hu => ?_⟩
    have hj : j < len := by
      have := (List.getElem?_eq_some_iff.1 hu).1
      rw [us_length, List.length_map, List.length_take] at this
      omega
    have hc := hcell j (by omega)
    rw [Go.WideShapes.add_plain] at hc
    rw [hc, ← hu]
    have hzj : zs[j]? = some zs[j] := List.getElem?_eq_getElem (by omega)
    have hw := hwz _ (List.getElem_mem (l := zs) (n := j) (by omega))
    simp only [us, List.map_map, List.getElem?_map, List.getElem?_take, if_pos hj, hzj, Option.map_some, List.getD, Option.getD_some]
    generalize zs[j] = z at hw
    have hb : 0 ≤ z ∧ z < 256 := by
      simp [Lit.wf, IntKind.min, IntKind.max, IntKind.signed, IntKind.bits] at hw
      omega
    show _ = some (Value.int .u8 ((UInt8.ofNat z.toNat).toNat : Int))
    rw [UInt8.toNat_ofNat']
    congr 2
    omega

set_option maxRecDepth 100000 in
theorem open8 {H : Type} {enc : TypeId × Value → H} {W : World} {base : Nat} {v : Value} {d : DataW H} {p : List MemPlace} (hval : Value.okWide Try.prog W .any base 22 v) (h : DataW.Trod enc Try.prog W 0 (fun _ => true) true 22 v d p) :
    ∃ A n c l, v = .slice A n c ∧ (A = none → c = 0) ∧ Rd W W.heap.size A n (us l) := by
  obtain ⟨a0, len, cap, rfl⟩ := okWide_slice Try.underlying22 hval
  obtain ⟨fuel, hf⟩ := h
  obtain ⟨A, n, c, l, hcs, hA, hr⟩ := open8c hf
  simp [Value.cells] at hcs
  obtain ⟨rfl, rfl, rfl⟩ := hcs
  exact ⟨_, _, _, l, rfl, hA, hr⟩


set_option maxRecDepth 100000 in
theorem open_tok {H : Type} {enc : TypeId × Value → H} {W : World} {fuel : Nat} {cs : List Value} {y : DataW H × List MemPlace} (hf : DataW.trod enc Try.prog W 0 (fun _ => true) true fuel 45 cs = some y) :
    ∃ a : Tk, cs = tokC a := by
  obtain ⟨xs, k, _, _, hlen, hxl, hfd⟩ := DataW.trod_struct Try.underlying45 hf
  rw [cells45] at hlen
  match cs, hlen, xs, hxl with
  | [x0, x1, x2], _, [y0, y1, y2], _ =>
    have g0 : DataW.trod enc Try.prog W 0 (fun _ => true) true k 5 [x0] = some y0 := by simpa [cells5] using hfd 0 _ rfl
    have g1 : DataW.trod enc Try.prog W 0 (fun _ => true) true k 3 [x1] = some y1 := by simpa [cells3] using hfd 1 _ rfl
    have g2 : DataW.trod enc Try.prog W 0 (fun _ => true) true k 3 [x2] = some y2 := by simpa [cells3] using hfd 2 _ rfl
    obtain ⟨z0, e0, _, hw⟩ := DataW.trod_int Try.underlying5 g0
    obtain ⟨z1, e1, _, _⟩ := DataW.trod_int Try.underlying3 g1
    obtain ⟨z2, e2, _, _⟩ := DataW.trod_int Try.underlying3 g2
    obtain rfl : x0 = .int .u8 z0 := by simpa using e0
    obtain rfl : x1 = .int .i64 z1 := by simpa using e1
    obtain rfl : x2 = .int .i64 z2 := by simpa using e2
    have hb : 0 ≤ z0 ∧ z0 < 256 := by
      simp [Lit.wf, IntKind.min, IntKind.max, IntKind.signed, IntKind.bits] at hw
      omega
    refine ⟨⟨UInt8.ofNat z0.toNat, z1, z2⟩, ?_⟩
    show _ = [Value.int .u8 ((UInt8.ofNat z0.toNat).toNat : Int), .int .i64 z1, .int .i64 z2]
    rw [UInt8.toNat_ofNat']
    congr 2
    omega

set_option maxRecDepth 100000 in
theorem openT {H : Type} {enc : TypeId × Value → H} {W : World} {base : Nat} {v : Value} {d : DataW H} {p : List MemPlace} (hval : Value.okWide Try.prog W .any base 26 v) (h : DataW.Trod enc Try.prog W 0 (fun _ => true) true 26 v d p) :
    ∃ A n c l, v = .slice A n c ∧ (A = none → c = 0) ∧ RdT W W.heap.size A n l := by
  obtain ⟨a0, len, cap, rfl⟩ := okWide_slice Try.underlying26 hval
  obtain ⟨fuel, hf⟩ := h
  rcases Go.Deep.open_slice Try.underlying26 hf with ⟨hcs, hx⟩ | ⟨a, len', cap', m, n, D, Pl, hcs, _, hl, hm, hmm, hx, hall⟩
  · simp [Value.cells] at hcs
    obtain ⟨rfl, rfl, rfl⟩ := hcs
    exact ⟨none, 0, 0, [], rfl, fun _ => rfl, ⟨rfl, fun h => absurd h (by decide)⟩⟩
  · simp [Value.cells] at hcs
    obtain ⟨rfl, rfl, rfl⟩ := hcs
    simp only [if_true] at hmm
    rw [cells45] at hall
    obtain ⟨F, hF⟩ := Go.Deep.choose_lt (α := Tk) (n := len) (p := fun i x => ∀ j u, (tokC x)[j]? = some u → W.cell? (a.add (i * 3 + j)) = some u) (fun i hi => by
      obtain ⟨cs, hc, ht⟩ := hall i (by omega)
      obtain ⟨_, hlen, hcell⟩ := World.cells?_some hc
      obtain ⟨x, rfl⟩ := open_tok ht
      refine ⟨x, fun j u hu => ?_⟩
      have hj : j < 3 := (List.getElem?_eq_some_iff.1 hu).1
      have cj := hcell j hj
      rw [Go.Deep.add_add, hu] at cj
      exact cj)
    refine ⟨some a, len, cap, (List.range len).map F, rfl, (fun h => by cases h), ⟨by simp, fun hp => ?_⟩⟩
    obtain ⟨b, off, spot⟩ := a
    have h0 := hF 0 hp 0 _ rfl
    have hspot : spot = none := by simpa [Addr.add] using World.cell?_spot h0
    subst hspot
    refine ⟨b, off, rfl, World.block_lt_of_cell? _ _ h0, fun i x hi j u hu => ?_⟩
    have hj : i < len := by
      have := (List.getElem?_eq_some_iff.1 hi).1
      simpa using this
    have hxi : x = F i := by
      rw [List.getElem?_map, List.getElem?_range hj] at hi
      exact (Option.some.inj hi).symm
    subst hxi
    have := hF i hj j u hu
    rwa [Go.WideShapes.add_plain] at this
end Go.Proofs.Ytnadnokjhinmcaa
