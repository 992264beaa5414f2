/- What the arguments give: a slice of bytes, an act, a slice of acts. -/
import Derived.Test.YtafipnhpoopljaaWords
import Derived.ProofKit
import Derived.Deep.Fields
namespace Go.Proofs.Ytafipnhpoopljaa
open Go.ChangeShapes Go.WideShapes Go.ChangeAt Go.RowKit
open Go.WideMaps Go.WideElems

theorem ownT : ownKnob Try.prog.godebug = none := by kernel_rfl
theorem laidOutT : laidOutB Try.prog = true := by kernel_rfl
theorem cells5 : Try.prog.cellsOf 5 = 1 := by kernel_rfl
theorem cells3 : Try.prog.cellsOf 3 = 1 := by kernel_rfl
theorem cells30 : Try.prog.cellsOf 30 = 1 := by kernel_rfl
theorem cells22 : Try.prog.cellsOf 22 = 1 := by kernel_rfl
theorem cells32 : Try.prog.cellsOf 32 = 4 := by kernel_rfl

theorem open8c {H : Type} {enc : TypeId × Value → H} {W : World} {fuel : Nat} {cs : List Value} {y : DataW H × List MemPlace} (hf : DataW.trod enc Try.prog W 0 (fun _ => true) true fuel 22 cs = some y) :
    ∃ A n c l, cs = [.slice A n c] ∧ (A = none → c = 0) ∧ Rd W W.heap.size A n (us l) := by
  rcases open_ints Try.underlying22 Try.underlying5 cells5 hf with ⟨hcs, hx⟩ | ⟨a, len, cap, zs, hcs, _, hl, hm, hz, hx, hcell, hwz⟩
  · exact ⟨none, 0, 0, [], hcs, fun _ => rfl, rfl, fun h => absurd h (by decide)⟩
  · simp only [if_true] at hz
    refine ⟨some a, len, cap, (zs.take len).map fun n => UInt8.ofNat n.toNat, hcs, (fun h => by cases h), by rw [us_length, List.length_map, List.length_take]; omega, fun hp => ?_⟩
    obtain ⟨b, off, spot⟩ := a
    have h0 := hcell 0 (by omega)
    have hspot : spot = none := by simpa [Addr.add] using World.cell?_spot h0
    subst hspot
    refine ⟨b, off, rfl, World.block_lt_of_cell? _ _ h0, fun j u hu => ?_⟩
    have hj : j < len := by
      have := (List.getElem?_eq_some_iff.1 hu).1
      rw [us_length, List.length_map, List.length_take] at this
      omega
    have hc := hcell j (by omega)
    rw [Go.WideShapes.add_plain] at hc
    rw [hc, ← hu]
    have hzj : zs[j]? = some zs[j] := List.getElem?_eq_getElem (by omega)
    have hw := hwz _ (List.getElem_mem (l := zs) (n := j) (by omega))
    simp only [us, List.map_map, List.getElem?_map, List.getElem?_take, if_pos hj, hzj, Option.map_some, List.getD, Option.getD_some]
    generalize zs[j] = z at hw
    have hb : 0 ≤ z ∧ z < 256 := by
      simp [Lit.wf, IntKind.min, IntKind.max, IntKind.signed, IntKind.bits] at hw
      omega
    show _ = some (Value.int .u8 ((UInt8.ofNat z.toNat).toNat : Int))
    rw [UInt8.toNat_ofNat']
    congr 2
    omega

theorem open8 {H : Type} {enc : TypeId × Value → H} {W : World} {base : Nat} {v : Value} {d : DataW H} {p : List MemPlace} (hval : Value.okWide Try.prog W .any base 22 v) (h : DataW.Trod enc Try.prog W 0 (fun _ => true) true 22 v d p) :
    ∃ A n c l, v = .slice A n c ∧ (A = none → c = 0) ∧ Rd W W.heap.size A n (us l) := by
  obtain ⟨a0, len, cap, rfl⟩ := okWide_slice Try.underlying22 hval
  obtain ⟨fuel, hf⟩ := h
  obtain ⟨A, n, c, l, hcs, hA, hr⟩ := open8c hf
  simp [Value.cells] at hcs
  obtain ⟨rfl, rfl, rfl⟩ := hcs
  exact ⟨_, _, _, l, rfl, hA, hr⟩

/-- An act as it comes in. -/
structure Raw where
  k : Int
  n : Int
  x : Nat
  A : Option Addr
  m : Nat
  c : Nat
  l : List UInt8
instance : Inhabited Raw := ⟨⟨0, 0, 0, none, 0, 0, []⟩⟩
def actC (a : Raw) : List Value := [.int .i64 a.k, .int .i64 a.n, .int .u32 (a.x : Int), .slice a.A a.m a.c]
/-- What is known of an act: its number is one of 32 bits, its bytes can be read. -/
structure RawOk (w : World) (B : Nat) (a : Raw) : Prop where
  x : a.x < 4294967296
  cap : a.A = none → a.c = 0
  rd : Rd w B a.A a.m (us a.l)

theorem open_act {H : Type} {enc : TypeId × Value → H} {W : World} {fuel : Nat} {cs : List Value} {y : DataW H × List MemPlace} (hf : DataW.trod enc Try.prog W 0 (fun _ => true) true fuel 32 cs = some y) :
    ∃ a : Raw, cs = actC a ∧ RawOk W W.heap.size a := by
  obtain ⟨xs, k, _, _, hlen, hxl, hfd⟩ := DataW.trod_struct Try.underlying32 hf
  rw [cells32] at hlen
  match cs, hlen, xs, hxl with
  | [x0, x1, x2, x3], _, [y0, y1, y2, y3], _ =>
    have g0 : DataW.trod enc Try.prog W 0 (fun _ => true) true k 3 [x0] = some y0 := by simpa [cells3] using hfd 0 _ rfl
    have g1 : DataW.trod enc Try.prog W 0 (fun _ => true) true k 3 [x1] = some y1 := by simpa [cells3] using hfd 1 _ rfl
    have g2 : DataW.trod enc Try.prog W 0 (fun _ => true) true k 30 [x2] = some y2 := by simpa [cells30] using hfd 2 _ rfl
    have g3 : DataW.trod enc Try.prog W 0 (fun _ => true) true k 22 [x3] = some y3 := by simpa [cells22] using hfd 3 _ rfl
    obtain ⟨z0, e0, _, _⟩ := DataW.trod_int Try.underlying3 g0
    obtain ⟨z1, e1, _, _⟩ := DataW.trod_int Try.underlying3 g1
    obtain ⟨z2, e2, _, hw⟩ := DataW.trod_int Try.underlying30 g2
    obtain ⟨A, m, c, l, e3, hA, hr⟩ := open8c g3
    obtain rfl : x0 = .int .i64 z0 := by simpa using e0
    obtain rfl : x1 = .int .i64 z1 := by simpa using e1
    obtain rfl : x2 = .int .u32 z2 := by simpa using e2
    obtain rfl : x3 = .slice A m c := by simpa using e3
    have hb : 0 ≤ z2 ∧ z2 < 4294967296 := by
      simp [Lit.wf, IntKind.min, IntKind.max, IntKind.signed, IntKind.bits] at hw
      omega
    refine ⟨⟨z0, z1, z2.toNat, A, m, c, l⟩, ?_, ⟨by show z2.toNat < _; omega, hA, hr⟩⟩
    show _ = [Value.int .i64 z0, .int .i64 z1, .int .u32 ((z2.toNat : Nat) : Int), .slice A m c]
    rw [Int.toNat_of_nonneg hb.1]

theorem openAct {H : Type} {enc : TypeId × Value → H} {W : World} {base : Nat} {v : Value} {d : DataW H} {p : List MemPlace} (hval : Value.okWide Try.prog W .any base 32 v) (h : DataW.Trod enc Try.prog W 0 (fun _ => true) true 32 v d p) :
    ∃ a : Raw, v = .agg #[.int .i64 a.k, .int .i64 a.n, .int .u32 (a.x : Int), .slice a.A a.m a.c] ∧ RawOk W W.heap.size a := by
  obtain ⟨cs, rfl, _⟩ := okWide_struct Try.underlying32 hval
  obtain ⟨fuel, hf⟩ := h
  obtain ⟨a, hc, hok⟩ := open_act hf
  refine ⟨a, ?_, hok⟩
  have : cs.toList = actC a := hc
  congr 1
  apply Array.toList_inj.1
  rw [this]
  rfl

/-- A slice of acts. -/
def RdA (w : World) (B : Nat) (A : Option Addr) (n : Nat) (l : List Raw) : Prop :=
  l.length = n ∧ (0 < n → ∃ g o, A = some ⟨g, o, none⟩ ∧ g < B ∧ ∀ i x, l[i]? = some x → ∀ j u, (actC x)[j]? = some u → w.cell? ⟨g, o + (i * 4 + j), none⟩ = some u)

theorem openActs {H : Type} {enc : TypeId × Value → H} {W : World} {base : Nat} {v : Value} {d : DataW H} {p : List MemPlace} (hval : Value.okWide Try.prog W .any base 23 v) (h : DataW.Trod enc Try.prog W 0 (fun _ => true) true 23 v d p) :
    ∃ A n c l, v = .slice A n c ∧ (A = none → c = 0) ∧ RdA W W.heap.size A n l ∧ ∀ x ∈ l, RawOk W W.heap.size x := by
  obtain ⟨a0, len, cap, rfl⟩ := okWide_slice Try.underlying23 hval
  obtain ⟨fuel, hf⟩ := h
  rcases Go.Deep.open_slice Try.underlying23 hf with ⟨hcs, hx⟩ | ⟨a, len', cap', m, n, D, Pl, hcs, _, hl, hm, hmm, hx, hall⟩
  · simp [Value.cells] at hcs
    obtain ⟨rfl, rfl, rfl⟩ := hcs
    exact ⟨none, 0, 0, [], rfl, fun _ => rfl, ⟨rfl, fun h => absurd h (by decide)⟩, fun x hx => by cases hx⟩
  · simp [Value.cells] at hcs
    obtain ⟨rfl, rfl, rfl⟩ := hcs
    simp only [if_true] at hmm
    rw [cells32] at hall
    obtain ⟨F, hF⟩ := Go.Deep.choose_lt (α := Raw) (n := len) (p := fun i x => (∀ j u, (actC x)[j]? = some u → W.cell? (a.add (i * 4 + j)) = some u) ∧ RawOk W W.heap.size x) (fun i hi => by
      obtain ⟨cs, hc, ht⟩ := hall i (by omega)
      obtain ⟨_, hlen, hcell⟩ := World.cells?_some hc
      obtain ⟨x, rfl, hok⟩ := open_act ht
      refine ⟨x, fun j u hu => ?_, hok⟩
      have hj : j < 4 := (List.getElem?_eq_some_iff.1 hu).1
      have cj := hcell j hj
      rw [Go.Deep.add_add, hu] at cj
      exact cj)
    refine ⟨some a, len, cap, (List.range len).map F, rfl, (fun h => by cases h), ⟨by simp, fun hp => ?_⟩, fun x hx => ?_⟩
    · obtain ⟨b, off, spot⟩ := a
      have h0 := (hF 0 hp).1 0 _ rfl
      have hspot : spot = none := by simpa [Addr.add] using World.cell?_spot h0
      subst hspot
      refine ⟨b, off, rfl, World.block_lt_of_cell? _ _ h0, fun i x hi j u hu => ?_⟩
      have hj : i < len := by
        have := (List.getElem?_eq_some_iff.1 hi).1
        simpa using this
      have hxi : x = F i := by
        rw [List.getElem?_map, List.getElem?_range hj] at hi
        exact (Option.some.inj hi).symm
      subst hxi
      have := (hF i hj).1 j u hu
      rwa [Go.WideShapes.add_plain] at this
    · obtain ⟨i, hi, rfl⟩ := List.mem_map.1 hx
      exact (hF i (List.mem_range.1 hi)).2
end Go.Proofs.Ytafipnhpoopljaa
