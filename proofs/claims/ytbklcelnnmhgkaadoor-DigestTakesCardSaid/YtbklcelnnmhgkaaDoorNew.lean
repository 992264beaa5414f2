/- Contracts of sha.New and of Len. -/
import Derived.Test.YtbklcelnnmhgkaaDoorHash
namespace Go.Proofs.YtbklcelnnmhgkaaDoor
open Go.RowKit

section
variable {P : Program} {ops : Array Oper} {rest : List Oper} {o : Oper} {a : Act} {Q : Exit → Act → World → Prop}
theorem run_load_cells (w : World) (g off : Nat) (ty : TypeId) (part : List Value) (d : TypeDesc)
    (hu : P.underlying ty = some d) (hd : (match d with | .struct _ | .array _ _ => true | _ => false) = true) (hi : (P.info? ty).map (·.size) = some part.length)
    (hp : ∀ j v, part[j]? = some v → w.cell? ⟨g, off + j, none⟩ = some v) : (loadVar ty ⟨g, off, none⟩).run P w = .ok (.agg part.toArray) w := by
  have hl : (loadCells ⟨g, off, none⟩ part.length).run P w = .ok part.toArray w :=
    run_loadCells_list (P := P) w ⟨g, off, none⟩ part (fun j v hv => by
      have hadd : (⟨g, off, none⟩ : Addr).add j = ⟨g, off + j, none⟩ := by unfold Addr.add; split <;> simp_all
      rw [hadd]
      exact hp j v hv)
  cases hq : P.info? ty with
  | none => simp [hq] at hi
  | some i =>
    have hs : i.size = part.length := by simpa [hq] using hi
    have hagg : (isAgg ty).run P w = .ok true w := by
      unfold isAgg
      rw [Sem.run_bind, run_underlying hu w]
      cases d <;> simp_all
    simp [loadVar, Sem.run_bind, hagg, sizeOf, typeInfo, hq, hs, hl]
theorem load_cells {w : World} (hgd : o.guard = none) (ty : TypeId) (x : Operand) (ho : o.op = .load ty x) (g off : Nat) (hx : a.eval x = .pointer (some ⟨g, off, none⟩)) (part : List Value) (d : TypeDesc)
    (hu : P.underlying ty = some d) (hd : (match d with | .struct _ | .array _ _ => true | _ => false) = true) (hi : (P.info? ty).map (·.size) = some part.length) (hp : ∀ j v, part[j]? = some v → w.cell? ⟨g, off + j, none⟩ = some v)
    (h : RowKit.Hid True → wpList P ops Q rest (a.put o.dst (.agg part.toArray)) w) : wpList P ops Q (o :: rest) a w :=
  wpList_plain hgd fun K hK => by
    unfold Oper.wp execOp
    simp only [ho, hx, Instr.loadAt, Instr.sureAddr, Sem.run_bind, Sem.run_pure, Result.andThen_ok, run_load_cells w g off ty part d hu hd hi hp]
    exact hK _ _ (h (Lib.hid trivial))
theorem build_row {w : World} (hgd : o.guard = none) (t : TypeId) (parts : Array (Nat × Operand)) (ho : o.op = .build t parts) (cells : Array Value) (hb : P.built t ((parts.map fun (i, x) => (i, a.eval x)).toList) = some cells)
    (h : RowKit.Hid True → wpList P ops Q rest (a.put o.dst (.agg cells)) w) : wpList P ops Q (o :: rest) a w :=
  wpList_plain hgd fun K hK => by
    unfold Oper.wp execOp
    simp only [ho, Sem.run_bind, run_build w t _ cells hb, Result.andThen_ok]
    exact hK _ _ (h (Lib.hid trivial))
end

theorem size49 : (Tryd.prog.info? 69).map (·.size) = some 73 := by kernel_rfl
theorem S0_cells {w : World} (ht : Tabs w) : ∀ j v, (u32s S0.list).toList[j]? = some v → w.cell? ⟨0, 0 + j, none⟩ = some v := fun j v hv => by
  have hj : j < 8 := by have := (List.getElem?_eq_some_iff.1 hv).1; simpa [u32s, list_len] using this
  rw [Nat.zero_add, ht.s j hj, ← hv, Array.getElem?_toList, u32s_at _ _ (by rw [list_len]; exact hj)]

set_option maxHeartbeats 400000 in
theorem new_any (w : World) (ht : Tabs w) : Calls Tryd.prog 31 #[] w fun e w' => e = .returned (.pointer (some ⟨w.heap.size, 0, none⟩)) ∧ HashAt w' w.heap.size H0 ∧ w.grownBy w' none := by
  have HT := Lib.hid ht
  clear ht
  go_enter Tryd.func31, Tryd.ntmps31
  go_upto_region 1 with fail
  go_step
  refine load_cells rfl 52 (.global 0) rfl 0 0 rfl (u32s S0.list).toList _ Tryd.underlying52 rfl (sz_st H0) (S0_cells HT.out) ?_
  intro _
  refine build_row rfl 69 #[(0, .tmp 1)] rfl (hcells H0) (by kernel_rfl) ?_
  intro _
  refine box_row rfl 69 _ rfl (hcells H0) rfl ?_
  intro w1 r1 g1 s1
  have R1 := Lib.hid r1
  have G1 := Lib.hid g1
  clear r1 g1 s1
  go_wp2_with fail
  go_ret
  exact ⟨rfl, ⟨R1.out, rfl⟩, G1.out⟩
end Go.Proofs.YtbklcelnnmhgkaaDoor
