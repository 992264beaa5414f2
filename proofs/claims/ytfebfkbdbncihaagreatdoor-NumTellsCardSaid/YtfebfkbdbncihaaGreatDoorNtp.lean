/- The library's table of powers of ten, out of the row's condition. -/
import Derived.Test.YtfebfkbdbncihaaGreatDoorLaid
import Derived.Test.YtfebfkbdbncihaaGreatDoorNtc
import Derived.ChangeSame
namespace Go.Proofs.YtfebfkbdbncihaaGreatDoor
set_option maxRecDepth 100000
open Go.ChangeShapes Go.WideShapes Go.ChangeAt Go.RowKit Go.Shelf

theorem lit64 {a : Int} (h : (Lit.int .u64 a).wf = true) : 0 ≤ a ∧ a < 18446744073709551616 := by
  simp [Lit.wf, IntKind.min, IntKind.max, IntKind.signed, IntKind.bits] at h
  omega
theorem under212 : Tryz.prog.underlying 212 = some (.array 696 211) := by kernel_rfl
theorem under211 : Tryz.prog.underlying 211 = some (.struct #[{ name := "hi", type := 46, offset := 0, embedded := false, tag := "", pkgPath := "internal/strconv", byteOffset := 0 }, { name := "lo", type := 46, offset := 1, embedded := false, tag := "", pkgPath := "internal/strconv", byteOffset := 8 }]) := by kernel_rfl
theorem cells211 : Tryz.prog.cellsOf 211 = 2 := by kernel_rfl
theorem cells46 : Tryz.prog.cellsOf 46 = 1 := by kernel_rfl
theorem pow_reads {W : World} (h : Lib.VarReads Tryz.prog W "internal/strconv.pow10Tab" Rows.laid_internal_strconv_pow10Tab) (i : Nat) (hi : i < 696) :
    ∃ a b : Int, W.cell? ⟨15, i * 2, none⟩ = some (.int .u64 a) ∧ W.cell? ⟨15, i * 2 + 1, none⟩ = some (.int .u64 b) ∧ p10 i = (a.toNat, b.toNat) ∧ (0 ≤ a ∧ a < 18446744073709551616) ∧ (0 ≤ b ∧ b < 18446744073709551616) := by
  obtain ⟨g, t, cs, fuel, p, hg, ht, hv, hd⟩ := h
  have hg15 : Tryz.prog.globalNamed "internal/strconv.pow10Tab" = some 15 := by kernel_rfl
  obtain rfl := Option.some.inj (hg15.symm.trans hg)
  obtain rfl := Option.some.inj ((show (Tryz.prog.globals[15]?).map (·.type) = some 212 by kernel_rfl).symm.trans ht)
  obtain ⟨xs, m, _, hx, hl, hlen, hf⟩ := DataW.trod_array under212 hd
  have hx1 : (Go.Pinned.pow10Tab : DataW Unit) = .agg (xs.map (·.1)) := congrArg Prod.fst hx
  have hfi := hf i hi
  rw [cells211] at hfi
  have hy : xs[i]? = some (xs[i]'(by omega)) := List.getElem?_eq_getElem (by omega)
  generalize xs[i]'(by omega) = y at hy
  rw [hy] at hfi
  obtain ⟨y0, y1, n, rfl, hcl, h0, h1⟩ := trod_struct2 under211 hfi
  dsimp only at h0 h1
  rw [cells46] at h0 h1
  obtain ⟨a, hca, rfl, hwa⟩ := DataW.trod_int Tryz.underlying46 h0
  obtain ⟨b, hcb, rfl, hwb⟩ := DataW.trod_int Tryz.underlying46 h1
  refine ⟨a, b, ?_, ?_, ?_, lit64 hwa, lit64 hwb⟩
  · rw [World.var?_cell hg15 hv (i * 2)]
    have := congrArg (·[0]?) hca
    simpa [List.getElem?_take, List.getElem?_drop] using this
  · rw [World.var?_cell hg15 hv (i * 2 + 1)]
    have := congrArg (·[0]?) hcb
    simpa [List.getElem?_take, List.getElem?_drop] using this
  · unfold p10
    rw [hx1]
    dsimp only
    rw [List.getElem?_map, hy]
    rfl
theorem ptab_of_laid {W : World} (h : laidMetH Tryz.prog laid2 W) : PTab W := by
  have hb := (tabs_of_laid h).big
  rw [MakeChecks.laidMetH_plain _ _ _ (by kernel_rfl)] at h
  have hr := Lib.laidMet.reads h (n := "internal/strconv.pow10Tab") (d := Rows.laid_internal_strconv_pow10Tab) (by unfold laid2; simp)
  refine ⟨hb, fun i hi => ?_, fun i hi => ?_⟩
  · obtain ⟨a, b, h1, h2, h3, h4, h5⟩ := pow_reads hr i hi
    rw [h1, h3]
    dsimp only
    exact ⟨by rw [show ((a.toNat : Nat) : Int) = a from by omega], by omega⟩
  · obtain ⟨a, b, h1, h2, h3, h4, h5⟩ := pow_reads hr i hi
    rw [h2, h3]
    dsimp only
    exact ⟨by rw [show ((b.toNat : Nat) : Int) = b from by omega], by omega⟩
end Go.Proofs.YtfebfkbdbncihaaGreatDoor
