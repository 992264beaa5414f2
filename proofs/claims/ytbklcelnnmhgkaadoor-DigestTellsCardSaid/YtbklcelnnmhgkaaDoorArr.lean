/- What a digest that comes in as an argument gives. -/
import Derived.Test.YtbklcelnnmhgkaaDoorOpen
import Derived.Test.YtbklcelnnmhgkaaDoorNam
import Derived.WideKeyArr2
namespace Go.Proofs.YtbklcelnnmhgkaaDoor
open Go.ChangeShapes Go.WideShapes Go.ChangeAt Go.RowKit

theorem mapM_each {α β : Type} {f : α → Option β} : ∀ (L : List α) (ys : List β), L.mapM f = some ys → ∀ i ∈ L, ∃ y, f i = some y
  | [], _, _, i, h => by cases h
  | x :: L, ys, h, i, hi => by
    rw [List.mapM_cons] at h
    simp only [bind, Option.bind_eq_some_iff, pure, Option.some.injEq] at h
    obtain ⟨y, hy, zs, hzs, rfl⟩ := h
    rcases List.mem_cons.1 hi with rfl | hi
    · exact ⟨y, hy⟩
    · exact mapM_each L zs hzs i hi

theorem cells24 : Tryd.prog.cellsOf 24 = 32 := by kernel_rfl
def byteV : Value → UInt8
  | .int _ a => UInt8.ofNat a.toNat
  | _ => 0

theorem openA {H : Type} {enc : TypeId × Value → H} {W : World} {base : Nat} {v : Value} {d : DataW H} {p : List MemPlace} (hval : Value.okWide Tryd.prog W .any base 24 v) (h : DataW.Trod enc Tryd.prog W 0 (fun _ => true) true 24 v d p) :
    ∃ L : List UInt8, v = .agg (u8s L) ∧ L.length = 32 := by
  simp only [Value.okWide, Tryd.underlying24] at hval
  obtain ⟨cs, rfl, hsz, _⟩ := hval
  rw [cells24] at hsz
  obtain ⟨fuel, hf⟩ := h
  cases fuel with
  | zero => simp [DataW.trod] at hf
  | succ m =>
    rw [DataW.trod_step] at hf
    unfold DataW.trodStep at hf
    simp only [Tryd.underlying24, Value.cells] at hf
    rw [if_pos (by rw [cells24]; simpa using hsz)] at hf
    simp only [Option.map_eq_some_iff] at hf
    obtain ⟨ys, hy, _⟩ := hf
    have hall := mapM_each _ _ hy
    have hcell : ∀ i (hi : i < 32), ∃ a : Int, cs[i]? = some (.int .u8 a) ∧ 0 ≤ a ∧ a < 256 := by
      intro i hi
      obtain ⟨y, hy⟩ := hall i (by simpa using hi)
      rw [cells5] at hy
      obtain ⟨a, ea, _, wa⟩ := DataW.trod_int Tryd.underlying5 hy
      refine ⟨a, ?_, ?_⟩
      · have := congrArg (fun l => l[0]?) ea
        simpa using this
      · simp [Lit.wf, IntKind.min, IntKind.max, IntKind.signed, IntKind.bits] at wa
        omega
    refine ⟨cs.toList.map byteV, ?_, by simp [hsz]⟩
    congr 1
    apply Array.ext
    · simp [u8s, us]
    · intro i h1 h2
      obtain ⟨a, ha, h0, h256⟩ := hcell i (by omega)
      have hci : cs[i] = .int .u8 a := by
        rw [Array.getElem?_eq_getElem h1] at ha
        exact Option.some.inj ha
      simp only [u8s, us, List.map_map, List.getElem_toArray, List.getElem_map, Array.getElem_toList, Function.comp_apply, hci, byteV, U8, UInt8.toNat_ofNat']
      congr 1
      omega
end Go.Proofs.YtbklcelnnmhgkaaDoor
