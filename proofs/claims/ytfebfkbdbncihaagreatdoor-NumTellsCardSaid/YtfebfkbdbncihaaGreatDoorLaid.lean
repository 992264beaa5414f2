/- What the listed variables give; and one heap in which they stand so. -/
import Derived.Test.YtfebfkbdbncihaaGreatDoorRows
import Derived.Test.YtfebfkbdbncihaaGreatDoorNue
import Derived.ProofKit
import Derived.LaidMore
import Derived.OpenShut
import Derived.Stop.Joined
import Derived.Stop.LaidErr
import Derived.Lib.LaidTab
import Derived.Lib.LaidU8
import Derived.Lay
namespace Go.Proofs.YtfebfkbdbncihaaGreatDoor
open Go.ChangeShapes Go.WideShapes Go.ChangeAt Go.RowKit Go.Shelf

theorem ownT : ownKnob Tryz.prog.godebug = none := by kernel_rfl
theorem laidOutT : laidOutB Tryz.prog = true := by kernel_rfl
def laid2 : List (String × DataW Unit) := [("math/bits.deBruijn32tab", Rows.laid_math_bits_deBruijn32tab), ("math/bits.deBruijn64tab", Rows.laid_math_bits_deBruijn64tab), ("internal/strconv.float32info", Rows.laid_internal_strconv_float32info), ("internal/strconv.float64info", Rows.laid_internal_strconv_float64info), ("internal/strconv.optimize", Rows.laid_internal_strconv_optimize), ("internal/strconv.powtab", Rows.laid_internal_strconv_powtab), ("internal/strconv.float64pow10", Rows.laid_internal_strconv_float64pow10), ("internal/strconv.float32pow10", Rows.laid_internal_strconv_float32pow10), ("internal/strconv.uint64pow10", Rows.laid_internal_strconv_uint64pow10), ("unicode/utf8.acceptRanges", Rows.laid_unicode_utf8_acceptRanges), ("strconv.ErrRange", Rows.laid_strconv_ErrRange), ("strconv.ErrSyntax", Rows.laid_strconv_ErrSyntax), ("internal/strconv.leftcheats", Rows.laid_internal_strconv_leftcheats), ("internal/strconv.pow10Tab", Rows.laid_internal_strconv_pow10Tab), ("unicode/utf8.first", Rows.laid_unicode_utf8_first)]
/-- It meets the condition. -/
theorem door_met (os : Os) (args : Array Value) : laidMetH Tryz.prog laid2 ((World.laidAll Tryz.prog os laid2).forCall (fun _ _ => 0) ⟨#[], args, []⟩).memory :=
  laidMetH_of_parts3 (fuel := 8) (laidMet_laidAll args (by kernel_rfl) (by kernel_rfl)) (by kernel_rfl) (by kernel_rfl)
theorem star : "*" ++ "errors.errorString" = "*errors.errorString" := by decide
theorem rows_err (u : TypeId) (h : Tryz.prog.typeName? 3 u = some "*errors.errorString") : u = 173 :=
  typeName_ptr_named (nm := "errors.errorString") (by rw [star]; kernel_rfl) (by kernel_rfl) (by decide) u (by rw [star]; exact h)
theorem d64 : (Rows.laid_internal_strconv_uint64pow10 : DataW Unit) = Lib.tabData .u64 Lib.pow10Tab := by kernel_rfl
theorem tabs_of_laid {W : World} (h : laidMetH Tryz.prog laid2 W) : NTabs W := by
  rw [MakeChecks.laidMetH_plain _ _ _ (by kernel_rfl)] at h
  have hb : 17 ≤ W.heap.size := by
    obtain ⟨g, t, cs, fuel, p, hg, ht, hv, hd⟩ := Lib.laidMet.reads h (n := "internal/strconv.leftcheats") (d := Rows.laid_internal_strconv_leftcheats) (by unfold laid2; simp)
    have hg16 : Tryz.prog.globalNamed "internal/strconv.leftcheats" = some 16 := by kernel_rfl
    unfold World.var? at hv
    rw [hg16, Option.bind_some] at hv
    rcases Nat.lt_or_ge 16 W.heap.size with h1 | h1
    · exact h1
    · rw [Array.getElem?_eq_none h1] at hv
      cases hv
  refine ⟨hb, ?_, ?_, ?_, ?_⟩
  · have h0 := h.tail.tail.tail.tail.tail.tail.tail.tail.tail.tail
    obtain ⟨a, s, hv, _⟩ := laid_sentinel (g := 2) (ti := 30) (tp := 173) (te := 175) (ts := 9) h0 (by kernel_rfl) (by kernel_rfl) Tryz.underlying30 rows_err Tryz.underlying173 Tryz.underlying175 rfl rfl Tryz.underlying9 (by kernel_rfl) (by kernel_rfl)
    exact ⟨173, .pointer (some a), World.var?_cell (g := 2) (by kernel_rfl) hv 0⟩
  · have h0 := h.tail.tail.tail.tail.tail.tail.tail.tail.tail.tail.tail
    obtain ⟨a, s, hv, _⟩ := laid_sentinel (g := 1) (ti := 30) (tp := 173) (te := 175) (ts := 9) h0 (by kernel_rfl) (by kernel_rfl) Tryz.underlying30 rows_err Tryz.underlying173 Tryz.underlying175 rfl rfl Tryz.underlying9 (by kernel_rfl) (by kernel_rfl)
    exact ⟨173, .pointer (some a), World.var?_cell (g := 1) (by kernel_rfl) hv 0⟩
  · have h0 := h.tail.tail.tail.tail.tail.tail.tail.tail
    rw [d64] at h0
    exact Lib.tabIs_of_head (g := 3) (t := 135) (e := 46) (n := 20) (by kernel_rfl) (by kernel_rfl) Tryz.underlying135 Tryz.underlying46 (by kernel_rfl) (by kernel_rfl) h0
  · obtain ⟨g, t, cs, fuel, p, hg, ht, hv, hd⟩ := Lib.laidMet.reads h (n := "internal/strconv.optimize") (d := Rows.laid_internal_strconv_optimize) (by unfold laid2; simp)
    have hg4 : Tryz.prog.globalNamed "internal/strconv.optimize" = some 4 := by kernel_rfl
    obtain rfl := Option.some.inj (hg4.symm.trans hg)
    obtain rfl := Option.some.inj ((show (Tryz.prog.globals[4]?).map (·.type) = some 4 by kernel_rfl).symm.trans ht)
    obtain ⟨b, hc, hx⟩ := DataW.trod_bool Tryz.underlying4 hd
    injection hx with hx _
    have hb1 : b = true := by
      have : (Rows.laid_internal_strconv_optimize : DataW Unit) = .lit (.bool true) := rfl
      rw [this] at hx
      injection hx with hx
      injection hx with hx
      exact hx.symm
    subst hb1
    have := World.var?_cell hg4 hv 0
    rw [this]
    have h2 : cs = #[.bool true] := by
      obtain ⟨l⟩ := cs
      exact congrArg Array.mk hc
    rw [h2]
    rfl
end Go.Proofs.YtfebfkbdbncihaaGreatDoor
