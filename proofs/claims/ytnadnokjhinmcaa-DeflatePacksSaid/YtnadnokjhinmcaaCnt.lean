
/- Contracts of countsOf, firstsOf, isFull, isLone and of slices.Clone of numbers. -/
import Derived.Test.YtnadnokjhinmcaaInts
namespace Go.Proofs.Ytnadnokjhinmcaa
open Go.RowKit

section
variable {P : Program} {ops : Array Oper} {rest : List Oper} {a : Act} {Q : Exit → Act → World → Prop}
theorem halt_build (ty : TypeId) {w : World} {dst : Option Tmp} {x : Array (Nat × Operand)} {t : TypeId} {pos : String} {aft : Array Edge} {g : Option (Nat × Bool)} (h : RowKit.Hid (wpList P ops Q (⟨dst, .build ty x, t, pos, aft, g⟩ :: rest) a w)) : wpList P ops Q (⟨dst, .build ty x, t, pos, aft, g⟩ :: rest) a w := h
theorem halt_box (ty : TypeId) {w : World} {dst : Option Tmp} {x : Operand} {t : TypeId} {pos : String} {aft : Array Edge} {g : Option (Nat × Bool)} (h : RowKit.Hid (wpList P ops Q (⟨dst, .box ty x, t, pos, aft, g⟩ :: rest) a w)) : wpList P ops Q (⟨dst, .box ty x, t, pos, aft, g⟩ :: rest) a w := h
end

/-- Each number is from 0 to 15. -/
def rng (L : List Int) : Prop := ∀ x ∈ L, 0 ≤ x ∧ x ≤ 15
instance (L : List Int) : Decidable (rng L) := by unfold rng; infer_instance
def nats (L : List Int) : List Nat := L.map Int.toNat
def cE (L : List Int) : Nat := if rng L then 0 else 1
def cF (L : List Int) : Nat → Nat := if rng L then cnt (nats L) else fun _ => 0
theorem rng_take {L : List Int} {k : Nat} {x : Int} (h : rng (L.take k)) (hk : L[k]? = some x) (hx : 0 ≤ x ∧ x ≤ 15) : rng (L.take (k + 1)) := by
  rw [take_more hk]
  intro y hy
  rcases List.mem_append.1 hy with h1 | h1
  · exact h y h1
  · rw [List.mem_singleton.1 h1]; exact hx
theorem cnt_nats_more {L : List Int} {k v : Nat} (hk : L[k]? = some (v : Int)) : cnt (nats (L.take (k + 1))) = upd (cnt (nats (L.take k))) v (cnt (nats (L.take k)) v + 1) := by
  funext j
  rw [take_more hk]
  unfold nats
  rw [List.map_append, List.map_singleton, Int.toNat_natCast, cnt_snoc]
  by_cases h : v = j
  · subst h; rw [if_pos rfl, upd_same]
  · rw [if_neg h, upd_ne _ _ (Ne.symm h)]; rfl
theorem not_rng {L : List Int} {k : Nat} {x : Int} (hk : L[k]? = some x) (hx : ¬ (0 ≤ x ∧ x ≤ 15)) : ¬ rng L := fun h => hx (h x (List.mem_of_getElem? hk))

/-- Within the count. -/
structure CntI (w wr : World) (G H : Nat) (L : List Int) (k : Nat) : Prop where
  low : rng (L.take k)
  row : Row wr H (ia (cnt (nats (L.take k))) 16) 102
  res : Row wr G (ia (fun _ => 0) 16) 102
  below : Below G w wr

set_option maxHeartbeats 1000000 in
set_option maxRecDepth 10000 in
theorem counts_any (A : Option Addr) (n c : Nat) (L : List Int) (w : World) (hr : Rd w w.heap.size A n (is L)) (hn : n ≤ 1000) :
    Calls Try.prog 62 #[.slice A n c] w fun e w' => e = .returned (.tuple #[.agg (ia (cF L) 16), errV (cE L)]) ∧ Below w.heap.size w w' := by
  have HR := Lib.hid hr
  have HN := Lib.hid hn
  clear hr hn
  go_enter Try.func62, Try.ntmps62
  go_upto_region 0 with fail
  go_step
  refine alloc_row rfl 102 rfl _ 16 info114 ?_
  intro w1 r1 g1 s1
  go_wp2_with (with_reducible refine halt_alloc 102 ?_)
  refine Lib.hid ?_
  refine alloc_row rfl 102 rfl _ 16 info114 ?_
  intro w2 r2 g2 s2
  have hb : Below w.heap.size w w2 := (below_make g1).grown g2 (by omega) (fun _ h => by cases h)
  have HI : RowKit.Hid (CntI w w2 w.heap.size w1.heap.size L 0) := Lib.hid ⟨fun x hx => by simp at hx, r2, r1.grown g2 (by simp), hb⟩
  have HH : RowKit.Hid (w1.heap.size = w.heap.size + 1) := Lib.hid s1
  have HL : RowKit.Hid (L.length = n) := Lib.hid (by have := HR.out.1; rwa [is_length] at this)
  clear r1 g1 s1 r2 g2 s2 hb
  generalize w1.heap.size = H at HI HH ⊢
  go_wp2_with fail
  go_loopw [9] (fun i wr => ∃ k : Nat, k ≤ n ∧ i = .int .i64 k ∧ CntI w wr w.heap.size H L k) (fun i _ => n - (intOf i).toNat)
  case atStart => exact ⟨0, by omega, rfl, HI.out⟩
  case round =>
    obtain ⟨k, hk, rfl, hI⟩ := hrel
    have HI := Lib.hid hI
    clear hI
    have hk9 : k ≤ 1000 := Nat.le_trans hk HN.out
    by_cases hkn : k < n
    · have hd : decide ((k : Int) < (n : Int)) = true := decide_eq_true (by omega)
      obtain ⟨x, HX⟩ : ∃ x, RowKit.Hid (L[k]? = some x) := ⟨_, Lib.hid (List.getElem?_eq_getElem (by rw [HL.out]; exact hkn))⟩
      obtain ⟨b, o, rfl, hb, hc⟩ := HR.out.atI HX.out
      replace hc : wr.cell? ⟨b, o + k, none⟩ = some (.int .i64 x) := (HI.out.below.cell (p := ⟨b, o + k, none⟩) hb).trans hc
      clear hb
      by_cases hx : 0 ≤ x ∧ x ≤ 15
      · obtain ⟨v, rfl⟩ : ∃ v : Nat, x = (v : Int) := ⟨x.toNat, by omega⟩
        have hv : v < 16 := by omega
        have d1 : decide ((v : Int) < 0) = false := decide_eq_false (by omega)
        have d2 : decide (15 < (v : Int)) = false := decide_eq_false (by omega)
        have hcv := HI.out.row.ia hv
        have hfv := HI.out.row.thawed v
        have HLow := Lib.hid (rng_take HI.out.low HX.out hx)
        have HM := Lib.hid (cnt_nats_more HX.out)
        have hle : cnt (nats (L.take k)) v ≤ 1000 := Nat.le_trans (cnt_le _ _) (by unfold nats; rw [List.length_map, List.length_take]; have := HN.out; omega)
        obtain ⟨q, HQ⟩ : ∃ q, RowKit.Hid (cnt (nats (L.take k)) v = q) := ⟨_, Lib.hid rfl⟩
        rw [HQ.out] at hcv hle
        clear hx
        go_wp2_with fail
        go_roundw
        case rel =>
          refine ⟨k + 1, by omega, by simp, HLow.out, ?_, HI.out.res.other (by have := HH.out; omega) _ _, HI.out.below.grown (grown_setCell _ _ _ _) HI.out.below.size (fun j h => by injection h with h; have := HH.out; omega)⟩
          rw [HM.out]
          exact HI.out.row.iaSet v _ _ (by rw [HQ.out]; omega)
        case measure => simp [intOf]; omega
      · have HZ : RowKit.Hid (cF L = (fun _ => 0) ∧ cE L = 1) := Lib.hid (by unfold cF cE; rw [if_neg (not_rng HX.out hx), if_neg (not_rng HX.out hx)]; exact ⟨rfl, rfl⟩)
        by_cases h0 : x < 0
        · have d1 : decide (x < 0) = true := decide_eq_true h0
          clear hx h0
          go_wp2_with (with_reducible refine halt_build 102 ?_)
          refine Lib.hid ?_
          refine build_row rfl 102 #[] rfl (ia (fun _ => 0) 16) (by simpa using built114) ?_
          intro _
          go_wp2_with (with_reducible refine halt_store 102 ?_)
          refine Lib.hid ?_
          refine store_row rfl 102 _ _ rfl w.heap.size (ia (fun _ => 0) 16) rfl rfl 102 _ HI.out.res 16 size114 (ia_size _ _) (ia_size _ _) (ia_one _ _) ?_
          intro w9 r9 g9 s9
          have HB9 := Lib.hid (HI.out.below.grown g9 HI.out.below.size (fun k h => by injection h with h; omega))
          have R9 := Lib.hid r9
          clear r9 g9 s9
          go_wp2_with fail
          refine bodyPost_ret (v := .tuple #[.agg (ia (fun _ => 0) 16), .iface 51 (.int .i64 1)]) ?_ rfl ⟨by rw [HZ.out.1, HZ.out.2]; rfl, HB9.out⟩
          exact results_two rfl _ _ w.heap.size 102 _ _ _ rfl rfl R9.out Try.underlying102 rfl (by rw [size114, ia_size])
        · have d1 : decide (x < 0) = false := decide_eq_false h0
          have d2 : decide (15 < x) = true := decide_eq_true (by omega)
          clear hx h0
          go_wp2_with (with_reducible refine halt_build 102 ?_)
          refine Lib.hid ?_
          refine build_row rfl 102 #[] rfl (ia (fun _ => 0) 16) (by simpa using built114) ?_
          intro _
          go_wp2_with (with_reducible refine halt_store 102 ?_)
          refine Lib.hid ?_
          refine store_row rfl 102 _ _ rfl w.heap.size (ia (fun _ => 0) 16) rfl rfl 102 _ HI.out.res 16 size114 (ia_size _ _) (ia_size _ _) (ia_one _ _) ?_
          intro w9 r9 g9 s9
          have HB9 := Lib.hid (HI.out.below.grown g9 HI.out.below.size (fun k h => by injection h with h; omega))
          have R9 := Lib.hid r9
          clear r9 g9 s9
          go_wp2_with fail
          refine bodyPost_ret (v := .tuple #[.agg (ia (fun _ => 0) 16), .iface 51 (.int .i64 1)]) ?_ rfl ⟨by rw [HZ.out.1, HZ.out.2]; rfl, HB9.out⟩
          exact results_two rfl _ _ w.heap.size 102 _ _ _ rfl rfl R9.out Try.underlying102 rfl (by rw [size114, ia_size])
    · have hkn : k = n := by omega
      subst hkn
      have hd : decide ((k : Int) < (k : Int)) = false := decide_eq_false (by omega)
      have hrow := HI.out.row
      have hall : L.take k = L := List.take_of_length_le (by rw [HL.out]; exact Nat.le_refl _)
      have HZ : RowKit.Hid (cF L = cnt (nats L) ∧ cE L = 0) := Lib.hid (by
        have := HI.out.low
        rw [hall] at this
        unfold cF cE
        rw [if_pos this, if_pos this]
        exact ⟨rfl, rfl⟩)
      rw [hall] at hrow
      have HRow := Lib.hid hrow
      clear hrow hall
      go_wp2_with (with_reducible refine halt_load 102 ?_)
      refine Lib.hid ?_
      refine load_row rfl 102 _ rfl H rfl 102 _ _ HRow.out Try.underlying102 rfl 16 size114 (ia_size _ _) ?_
      intro _
      refine store_row rfl 102 _ _ rfl w.heap.size (ia (cnt (nats L)) 16) rfl rfl 102 _ HI.out.res 16 size114 (ia_size _ _) (ia_size _ _) (ia_one _ _) ?_
      intro w9 r9 g9 s9
      have HB9 := Lib.hid (HI.out.below.grown g9 HI.out.below.size (fun k h => by injection h with h; omega))
      have R9 := Lib.hid r9
      clear r9 g9 s9
      go_wp2_with fail
      refine bodyPost_ret (v := .tuple #[.agg (ia (cnt (nats L)) 16), .nilIface]) ?_ rfl ⟨by rw [HZ.out.1, HZ.out.2]; rfl, HB9.out⟩
      exact results_two rfl _ _ w.heap.size 102 _ _ _ rfl rfl R9.out Try.underlying102 rfl (by rw [size114, ia_size])
end Go.Proofs.Ytnadnokjhinmcaa
