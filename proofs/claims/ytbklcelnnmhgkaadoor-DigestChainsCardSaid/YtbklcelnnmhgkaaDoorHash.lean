/- What a Hash is in memory. -/
import Derived.Test.YtbklcelnnmhgkaaDoorMix
import Derived.Deep.RegionLaw
namespace Go.Proofs.YtbklcelnnmhgkaaDoor
open Go.RowKit

def hcells (h : HS) : Array Value := u32s h.st.list ++ u8s h.blk ++ #[.int .i64 (h.n : Int)]
/-- Block g holds this hash. -/
structure HashAt (w : World) (g : Nat) (h : HS) : Prop where
  row : Row w g (hcells h) 69
  len : h.blk.length = 64

theorem hcells_size (h : HS) (hl : h.blk.length = 64) : (hcells h).size = 73 := by
  simp [hcells, u32s_size, u8s_size, hl, list_len]
theorem hcells_st (h : HS) (i : Nat) (hi : i < 8) : (hcells h)[i]? = some (U32 (nth h.st.list i)) := by
  unfold hcells
  rw [Array.append_assoc, Array.getElem?_append_left (by rw [u32s_size, list_len]; exact hi), u32s_at _ _ (by rw [list_len]; exact hi)]
theorem hcells_blk (h : HS) (hl : h.blk.length = 64) (i : Nat) (hi : i < 64) : (hcells h)[8 + i]? = some (U8 (h.blk.getD i 0)) := by
  unfold hcells
  rw [Array.append_assoc, Array.getElem?_append_right (by rw [u32s_size, list_len]; omega), u32s_size, list_len, Array.getElem?_append_left (by rw [u8s_size, hl]; omega), show 8 + i - 8 = i by omega, u8s_at _ _ (by omega)]
theorem hcells_n (h : HS) (hl : h.blk.length = 64) : (hcells h)[72]? = some (.int .i64 (h.n : Int)) := by
  unfold hcells
  rw [Array.getElem?_append_right (by simp [u32s_size, u8s_size, list_len, hl])]
  simp [u32s_size, u8s_size, list_len, hl]
theorem hcells_set_blk (s : S8) (b : List UInt8) (n : Nat) (i : Nat) (hi : i < 64) (hl : b.length = 64) (x : UInt8) : (hcells ⟨s, b, n⟩).setIfInBounds (8 + i) (U8 x) = hcells ⟨s, b.set i x, n⟩ := by
  unfold hcells
  simp only []
  rw [Array.append_assoc, Array.setIfInBounds_append_right (by rw [u32s_size, list_len]; omega), u32s_size, list_len, show 8 + i - 8 = i by omega, Array.setIfInBounds_append_left (by rw [u8s_size, hl]; omega), u8s_set, Array.append_assoc]
theorem hcells_set_n (s : S8) (b : List UInt8) (n m : Nat) (hl : b.length = 64) : (hcells ⟨s, b, n⟩).setIfInBounds 72 (.int .i64 (m : Int)) = hcells ⟨s, b, m⟩ := by
  unfold hcells
  simp only []
  rw [Array.setIfInBounds_append_right (by simp [u32s_size, u8s_size, list_len, hl])]
  simp [u32s_size, u8s_size, list_len, hl]
theorem hcells_set_st (s t : S8) (b : List UInt8) (n : Nat) : ((hcells ⟨s, b, n⟩).toList.take 0 ++ (u32s t.list).toList ++ (hcells ⟨s, b, n⟩).toList.drop (0 + (u32s t.list).size)).toArray = hcells ⟨t, b, n⟩ := by
  have h1 : (u32s t.list).size = (u32s s.list).size := by rw [u32s_size, u32s_size, list_len, list_len]
  rw [h1]
  unfold hcells
  simp [u32s]

theorem hcells_all (h : HS) : (hcells h).all (·.oneCell') = true := by
  unfold hcells
  rw [Array.all_append, Array.all_append, u32s_one, u8s_one]
  simp [Value.oneCell']

theorem seg_st (h : HS) : ∀ j v, (u32s h.st.list).toList[j]? = some v → (hcells h)[0 + j]? = some v := fun j v hv => by
  have hj : j < 8 := by have := (List.getElem?_eq_some_iff.1 hv).1; simpa [u32s, list_len] using this
  rw [Nat.zero_add, hcells_st _ _ hj, ← hv, Array.getElem?_toList, u32s_at _ _ (by rw [list_len]; exact hj)]
theorem seg_blk (h : HS) (hl : h.blk.length = 64) : ∀ j v, (u8s h.blk).toList[j]? = some v → (hcells h)[8 + j]? = some v := fun j v hv => by
  have hj : j < 64 := by have := (List.getElem?_eq_some_iff.1 hv).1; simp [u8s, us] at this; omega
  rw [hcells_blk _ hl _ hj, ← hv, Array.getElem?_toList, u8s_at _ _ (by omega)]
theorem sz_st (h : HS) : (Tryd.prog.info? 52).map (·.size) = some (u32s h.st.list).toList.length := by
  rw [size41, Array.length_toList, u32s_size, list_len]
theorem sz_blk (h : HS) (hl : h.blk.length = 64) : (Tryd.prog.info? 67).map (·.size) = some (u8s h.blk).toList.length := by
  rw [size47, Array.length_toList, u8s_size, hl]

section
variable {P : Program} {ops : Array Oper} {o : Oper} {a : Act} {K : Act → World → Prop} {Q : Exit → Act → World → Prop} {E : Prop}
theorem wp_load_seg {w : World} (ty : TypeId) (x : Operand) (ho : o.op = .load ty x) (g off : Nat) (hx : a.eval x = .pointer (some ⟨g, off, none⟩)) (t : TypeId) (cs : Array Value) (part : List Value) (d : TypeDesc)
    (hg : Row w g cs t) (hu : P.underlying ty = some d) (hd : (match d with | .struct _ | .array _ _ => true | _ => false) = true) (hi : (P.info? ty).map (·.size) = some part.length) (hp : ∀ j v, part[j]? = some v → cs[off + j]? = some v)
    (h : K (a.put o.dst (.agg part.toArray)) w) : Oper.wp P o a w K Q := by
  unfold Oper.wp execOp
  simp only [ho, hx, Instr.loadAt, Instr.sureAddr, Sem.run_bind, Sem.run_pure, Result.andThen_ok, run_load_seg w g off t ty cs part d hg hu hd hi hp]
  exact h
/-- A part of a row is loaded, in a region that draws. -/
theorem step_load_seg {w : World} (hgd : o.guard = none) (ty : TypeId) (x : Operand) (ho : o.op = .load ty x) (g off : Nat) (hx : a.eval x = .pointer (some ⟨g, off, none⟩)) (t : TypeId) (cs : Array Value) (part : List Value) (d : TypeDesc)
    (hg : Row w g cs t) (hu : P.underlying ty = some d) (hd : (match d with | .struct _ | .array _ _ => true | _ => false) = true) (hi : (P.info? ty).map (·.size) = some part.length) (hp : ∀ j v, part[j]? = some v → cs[off + j]? = some v)
    (h : K (a.put o.dst (.agg part.toArray)) w) : if Region.wanted o (yielded ops a.tmps) = true then Oper.wp P o a w K Q else E := by
  rw [if_pos (by simp [Region.wanted, hgd])]
  unfold Oper.wp execOp
  simp only [ho, hx, Instr.loadAt, Instr.sureAddr, Sem.run_bind, Sem.run_pure, Result.andThen_ok, run_load_seg w g off t ty cs part d hg hu hd hi hp]
  exact h
/-- A part of a row is stored. -/
theorem step_store_seg {w : World} (hgd : o.guard = none) (ty : TypeId) (x y : Operand) (ho : o.op = .store ty x y) (g off : Nat) (hx : a.eval x = .pointer (some ⟨g, off, none⟩)) (part : Array Value) (hy : a.eval y = .agg part) (t : TypeId) (cs new : Array Value)
    (hg : Row w g cs t) (hi : (P.info? ty).map (·.size) = some part.size) (hl : off + part.size ≤ cs.size) (h1 : part.all (·.oneCell') = true) (hn : (cs.toList.take off ++ part.toList ++ cs.toList.drop (off + part.size)).toArray = new)
    (h : ∀ w', Row w' g new t → w.grownBy w' (some g) → K (a.put o.dst undef) w') : if Region.wanted o (yielded ops a.tmps) = true then Oper.wp P o a w K Q else E := by
  rw [if_pos (by simp [Region.wanted, hgd])]
  unfold Oper.wp execOp
  simp only [ho, hx, hy, Instr.storeAt, Instr.sureAddr, Sem.run_bind, Sem.run_pure, Result.andThen_ok, run_store_seg w g off t ty cs part hg hi hl h1, hn]
  exact h _ (setRow_heap w g cs new t _ hg) (grown_setRow w g new)
end

/-- A slice that reads as a list and lies in another block than g. -/
def RdN (w : World) (g : Nat) (A : Option Addr) (n : Nat) (xs : List Value) : Prop :=
  xs.length = n ∧ (0 < n → ∃ b o, A = some ⟨b, o, none⟩ ∧ b ≠ g ∧ b < w.heap.size ∧ ∀ j u, xs[j]? = some u → w.cell? ⟨b, o + j, none⟩ = some u)
theorem RdN.grown {w w' : World} {g : Nat} {A : Option Addr} {n : Nat} {xs : List Value} (h : RdN w g A n xs) (hg : w.grownBy w' (some g)) : RdN w' g A n xs := by
  refine ⟨h.1, fun hn => ?_⟩
  obtain ⟨b, o, rfl, hb, hlt, hc⟩ := h.2 hn
  exact ⟨b, o, rfl, hb, Nat.lt_of_lt_of_le hlt hg.size, fun j u hu => (World.cell?_of_block (w := w) (a := ⟨b, o + j, none⟩) (hg.block b hlt (by simpa using hb))).trans (hc j u hu)⟩
theorem RdN.at8 {w : World} {g : Nat} {A : Option Addr} {n : Nat} {l : List UInt8} (h : RdN w g A n (us l)) {k : Nat} (hk : k < n) :
    ∃ b o x, A = some ⟨b, o, none⟩ ∧ l[k]? = some x ∧ w.cell? ⟨b, o + k, none⟩ = some (.int .u8 (x.toNat : Int)) := by
  obtain ⟨b, o, rfl, hg, _, hc⟩ := h.2 (by omega)
  have hl : k < l.length := by have := h.1; rw [us_length] at this; omega
  refine ⟨b, o, l[k], rfl, List.getElem?_eq_getElem hl, hc k _ ?_⟩
  simp [us, List.getElem?_eq_getElem hl]

theorem HashAt.set_blk {w : World} {g : Nat} {h : HS} (hh : HashAt w g h) (i : Nat) (hi : i < 64) (x : UInt8) : HashAt (w.setCell ⟨g, 8 + i, none⟩ (U8 x)) g ⟨h.st, h.blk.set i x, h.n⟩ := by
  refine ⟨?_, by simp [hh.len]⟩
  have := hh.row.set (8 + i) (U8 x)
  rwa [hcells_set_blk h.st h.blk h.n i hi hh.len] at this
theorem HashAt.set_n {w : World} {g : Nat} {h : HS} (hh : HashAt w g h) (m : Nat) : HashAt (w.setCell ⟨g, 72, none⟩ (.int .i64 (m : Int))) g ⟨h.st, h.blk, m⟩ := by
  refine ⟨?_, hh.len⟩
  have := hh.row.set 72 (.int .i64 (m : Int))
  rwa [hcells_set_n h.st h.blk h.n m hh.len] at this
theorem HashAt.drew {w : World} {g : Nat} {h : HS} (hh : HashAt w g h) : HashAt w.drew g h := ⟨hh.row, hh.len⟩

structure WL (w : World) (g : Nat) (h : HS) (wr : World) : Prop where
  hash : HashAt wr g h
  grown : w.grownBy wr (some g)
  tabs : Tabs wr

theorem WL.set_blk {w : World} {g : Nat} {h : HS} {wr : World} (hW : WL w g h wr) (hg : 2 ≤ g) (i : Nat) (hi : i < 64) (x : UInt8) : WL w g ⟨h.st, h.blk.set i x, h.n⟩ (wr.setCell ⟨g, 8 + i, none⟩ (U8 x)) :=
  ⟨hW.hash.set_blk i hi x, hW.grown.trans (grown_setCell wr g _ _), hW.tabs.grown (grown_setCell wr g _ _) (fun k h => by injection h with h; omega)⟩
theorem WL.set_n {w : World} {g : Nat} {h : HS} {wr : World} (hW : WL w g h wr) (hg : 2 ≤ g) (m : Nat) (v : Int) (hv : v = (m : Int)) : WL w g ⟨h.st, h.blk, m⟩ (wr.setCell ⟨g, 72, none⟩ (.int .i64 v)) := by
  subst hv
  exact ⟨hW.hash.set_n m, hW.grown.trans (grown_setCell wr g _ _), hW.tabs.grown (grown_setCell wr g _ _) (fun k h => by injection h with h; omega)⟩
theorem WL.drew {w : World} {g : Nat} {h : HS} {wr : World} (hW : WL w g h wr) : WL w g h wr.drew :=
  ⟨hW.hash.drew, grown_drew hW.grown, ⟨hW.tabs.k, hW.tabs.s, hW.tabs.size⟩⟩
theorem take_more {α : Type} {l : List α} {k : Nat} {x : α} (h : l[k]? = some x) : l.take (k + 1) = l.take k ++ [x] := by
  rw [List.take_add_one, h]; rfl

end Go.Proofs.YtbklcelnnmhgkaaDoor
