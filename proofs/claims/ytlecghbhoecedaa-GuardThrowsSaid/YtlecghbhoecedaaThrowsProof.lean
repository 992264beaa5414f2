/- Proved: for every code and every list of places the law GuardThrows answers true, and the input reads as it did. No condition. -/
import Derived.Test.YtlecghbhoecedaaRows
import Derived.Test.YtlecghbhoecedaaThrows
import Derived.ProofKit
namespace Go.Proofs.Ytlecghbhoecedaa
open Go.ChangeShapes Go.WideShapes Go.ChangeAt Go.RowKit
open Go.WideMaps Go.WideElems

theorem own6 : ownKnob Try.prog.godebug = none := by kernel_rfl
theorem laidOut6 : laidOutB Try.prog = true := by kernel_rfl
theorem cells9 : Try.prog.cellsOf 9 = 1 := by kernel_rfl

set_option maxRecDepth 100000 in
theorem throws_lifted (os : Os) (started : os.Started) (H : Type) (enc : TypeId × Value → H) :
    ReturnsInHanded {} Try.checked os 6 .any (Rows.guardThrowsSpec.pre6 enc Try.prog Try.f6 Rows.guardThrowsRow.domain false) (Rows.guardThrowsSpec.post enc Try.prog Try.f6 false true false false) := by
  refine returnsInHanded_of_change (C := Try.checked) own6 started (by kernel_rfl) Try.func6
    (ChangeSpec.witness6 (enc := enc) (C := Try.checked) false ⟨#[], #[.int .i64 0, .slice none 0 0], []⟩ 8 (by kernel_rfl) (by kernel_rfl) (by kernel_rfl) (by kernel_rfl)) ?_
  intro W base args ds gs before hval0 hW hcnd _
  have hval : ∀ (j : Nat) t v, Try.f6.params[j]? = some t → args[j]? = some v → Value.okWide Try.prog W .any base t v := hval0
  have hW' := hW
  have hlt := hW.lt
  obtain ⟨p, q, hA0, hV, rfl, hfz, hnd⟩ := hW
  have hA : DataW.TrodAll enc Try.prog W 0 (fun _ => true) true Try.f6.params.toList args.toList ds p := hA0
  rw [Try.params6] at hA hval
  obtain ⟨v0, v1, d0, d1, p0, p1, rfl, rfl, rfl, h0, h1⟩ := trodAll_two hA
  obtain ⟨rfl, rfl⟩ := trodVars_none hV
  obtain ⟨c, rfl, rfl, rfl, wc⟩ := open_int Try.underlying3 (hval 0 3 v0 rfl rfl) h0
  obtain ⟨a0, len, cap, rfl⟩ := okWide_slice Try.underlying55 (hval 1 55 v1 rfl rfl)
  clear hA0 hval0
  simp only [List.append_nil, List.nil_append] at hW' hlt
  have walk : Calls Try.prog 6 #[.int .i64 c, .slice a0 len cap] W fun e w' => e = .returned (.bool true) ∧ Below W.heap.size W w' := by
    by_cases h20 : (20 : Int) < (len : Int)
    · exact throws_long c a0 len cap W h20
    · by_cases hc : c = 0
      · subst hc; exact throws_zero a0 len cap W (by omega)
      · have hc0 : (c == 0) = false := by simpa using hc
        obtain ⟨fuel, hf⟩ := h1
        rcases open_strings Try.underlying55 Try.underlying9 cells9 hf with ⟨hcs, hx⟩ | ⟨a, len', cap', ss, hcs, _, hl, hm, hz, hx, hcell, hws⟩
        · simp [Value.cells] at hcs
          obtain ⟨rfl, rfl, rfl⟩ := hcs
          exact throws_nil c _ _ W hc0
        · simp [Value.cells] at hcs
          obtain ⟨rfl, rfl, rfl⟩ := hcs
          simp at hz
          by_cases hp : 0 < ss.length
          · obtain ⟨b, off, spot⟩ := a
            have hspot : spot = none := by simpa [Addr.add] using World.cell?_spot (hcell 0 hp)
            subst hspot
            have hb : b < W.heap.size := World.block_lt_of_cell? _ _ (hcell 0 hp)
            exact throws_any c b off len cap ss W hb (by omega) (by omega) hc0 (fun i hi => by rw [← Go.WideShapes.add_plain]; exact hcell i hi)
          · have : len = 0 := by omega
            subst this
            exact throws_nil c _ _ W hc0
  refine walk.mono fun e W' ⟨he, hw⟩ => ?_
  subst he
  exact ⟨_, rfl, _, _, _, [], _, [], hW', trodAll_mk1 (shut_bool Try.underlying4 true), trodAll_mk2 (shut_int Try.underlying3 wc) (hw.trod laidOut6 (by kernel_rfl) (of_decide_eq_true (by kernel_rfl)) h1 hlt), rfl, hw.frame _, fun h => by cases h⟩

theorem throws_holds : Rows.GuardThrowsSaid :=
  OpenClaim.holds_of_wide 6 Try.f6 rfl rfl rfl rfl rfl rfl rfl ⟨rfl, rfl, rfl, rfl, rfl⟩ rfl rfl rfl rfl rfl (by kernel_rfl) Try.func6 (by kernel_rfl)
    (of_decide_eq_true (by kernel_rfl)) (by unfold Func.isWrapper; first | (rw [if_pos (by decide +kernel)]; kernel_rfl) | (rw [if_neg (by decide +kernel)]; exact ⟨rfl, rfl⟩))
    (fun os started H enc _ => throws_lifted os started H enc)

end Go.Proofs.Ytlecghbhoecedaa
