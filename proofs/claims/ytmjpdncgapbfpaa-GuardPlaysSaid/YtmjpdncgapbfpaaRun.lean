/- Contract of the reference's Run. -/
import Derived.Test.YtmjpdncgapbfpaaSmall
import Derived.Deep.RegionHeld3
namespace Go.Proofs.Ytmjpdncgapbfpaa
open Go.RowKit

def Ran (ops : List Sc) (n : Nat) (w : World) (r : Res) (e : Ending) (w' : World) : Prop :=
  ∃ (nv : Value) (j : Nat), e = .returned (.tuple #[nv, .int .i64 (j : Int), fltA r.2.2]) ∧ j ≤ n ∧ ops.drop j = r.2.1 ∧ OwnN w' w.heap.size nv r.1 ∧ Below w.heap.size w w'

def RunSaid (f : Nat) : Prop := ∀ (A : Option Addr) (n c : Nat) (ops : List Sc) (i : Nat) (w : World), RdO w w.heap.size A n ops → n ≤ 60 → i ≤ n → Kinds ops → Small ops → (ops.drop i).length ≤ f →
  Calls Try.prog 11 #[.slice A n c, .int .i64 (i : Int)] w (Ran ops n w (rn f (ops.drop i)))

/-- The state of Run's loop. -/
structure RRel (ops : List Sc) (n : Nat) (w0 : World) (f : Nat) (i : Nat) (j g : Nat) (v : Value) (N : List Nt) (wr : World) : Prop where
  own : OwnN wr w0.heap.size v N
  below : Below w0.heap.size w0 wr
  jn : j ≤ n
  gf : g ≤ f
  fuel : (ops.drop j).length ≤ g
  eq : rn f (ops.drop i) = (N ++ (rn g (ops.drop j)).1, (rn g (ops.drop j)).2)
  small : N.length + (ops.drop j).length ≤ 60

theorem OwnN.lit0 (w : World) : OwnN (w.alloc (.cells #[] 40)) w.heap.size (.slice (some ⟨w.heap.size, 0, none⟩) 0 0) [] :=
  ⟨rfl, .inr ⟨w.heap.size, 0, #[], rfl, Nat.le_refl _, heap_alloc_new w _, Nat.le_refl _, by unfold maxLen; omega, rfl, rfl⟩⟩

theorem RdO.next {w w' : World} {A : Option Addr} {n : Nat} {ops : List Sc} (h : RdO w w.heap.size A n ops) (hb : Below w.heap.size w w') : RdO w' w'.heap.size A n ops := by
  have := h.below (w' := w') fun p hp => hb.cell hp
  refine ⟨this.1, fun hn => ?_⟩
  obtain ⟨g, o, e, hg, hc⟩ := this.2 hn
  exact ⟨g, o, e, Nat.lt_of_lt_of_le hg hb.size, hc⟩

theorem RRel.go {ops : List Sc} {n : Nat} {w0 : World} {f i j g : Nat} {v : Value} {N : List Nt} {wr : World} (h : RRel ops n w0 f i j g v N wr) {j' g' : Nat} {M : List Nt} {v' : Value} {w' : World}
    (he : rn g (ops.drop j) = (M ++ (rn g' (ops.drop j')).1, (rn g' (ops.drop j')).2)) (ho : OwnN w' w0.heap.size v' (N ++ M)) (hb : Below w0.heap.size w0 w') (hj : j' ≤ n) (hg : g' ≤ g) (hf : (ops.drop j').length ≤ g')
    (hm : M.length + (ops.drop j').length ≤ (ops.drop j).length) : RRel ops n w0 f i j' g' v' (N ++ M) w' := by
  refine ⟨ho, hb, hj, Nat.le_trans hg h.gf, hf, ?_, ?_⟩
  · rw [h.eq, he]; simp
  · have := h.small; rw [List.length_append]; omega

theorem OwnN.grown {w w' : World} {B : Nat} {a : World} {v : Value} {l : List Nt} (h : OwnN w B v l) (hg : w.grownBy w' v.ownBlock) (hb : Below B a w) (hB : B ≤ w.heap.size) : Below B a w' :=
  hb.grown hg hB fun k hk => (World.ownsRow.lt h k hk).1
theorem OwnN.later {w w' : World} {B : Nat} {v : Value} {l : List Nt} (h : OwnN w B v l) (hb : Below w.heap.size w w') : OwnN w' B v l :=
  World.ownsRow.kept h (row := none) ⟨hb.os, hb.tape, hb.output, hb.size, fun k hk _ => hb.block k hk⟩ (by cases hv : v.ownBlock <;> simp)

theorem cell3 {O b : Nat} (h : O ≠ b) (w : World) (u0 u1 u2 : Value) (i : Nat) : (((w.setCell ⟨b, 0, none⟩ u0).setCell ⟨b, 1, none⟩ u1).setCell ⟨b, 2, none⟩ u2).drew.cell? ⟨O, i, none⟩ = w.cell? ⟨O, i, none⟩ := by
  show (((w.setCell ⟨b, 0, none⟩ u0).setCell ⟨b, 1, none⟩ u1).setCell ⟨b, 2, none⟩ u2).cell? ⟨O, i, none⟩ = _
  have hne : ∀ k, (⟨b, k, none⟩ : Addr) ≠ ⟨O, i, none⟩ := fun k e => h (congrArg Addr.block e).symm
  have hne' : ∀ k, (⟨O, i, none⟩ : Addr) ≠ ⟨b, k, none⟩ := fun k e => h (congrArg Addr.block e)
  rw [World.cell?_setCell_other _ _ _ _ (by first | exact hne 2 | exact hne' 2), World.cell?_setCell_other _ _ _ _ (by first | exact hne 1 | exact hne' 1), World.cell?_setCell_other _ _ _ _ (by first | exact hne 0 | exact hne' 0)]

theorem three {b : Nat} {w : World} {a0 a1 a2 : Value} (h0 : w.cell? ⟨b, 0, none⟩ = some a0) (h1 : w.cell? ⟨b, 1, none⟩ = some a1) (h2 : w.cell? ⟨b, 2, none⟩ = some a2) (u0 u1 u2 : Value) :
    (((w.setCell ⟨b, 0, none⟩ u0).setCell ⟨b, 1, none⟩ u1).setCell ⟨b, 2, none⟩ u2).cell? ⟨b, 0, none⟩ = some u0 ∧ (((w.setCell ⟨b, 0, none⟩ u0).setCell ⟨b, 1, none⟩ u1).setCell ⟨b, 2, none⟩ u2).cell? ⟨b, 1, none⟩ = some u1 ∧ (((w.setCell ⟨b, 0, none⟩ u0).setCell ⟨b, 1, none⟩ u1).setCell ⟨b, 2, none⟩ u2).cell? ⟨b, 2, none⟩ = some u2 := by
  refine ⟨?_, ?_, ?_⟩
  · rw [World.cell?_setCell_other _ _ _ _ (by intro e; cases e), World.cell?_setCell_other _ _ _ _ (by intro e; cases e)]
    exact World.cell?_setCell_same _ _ _ h0
  · rw [World.cell?_setCell_other _ _ _ _ (by intro e; cases e)]
    exact World.cell?_setCell_same _ _ _ (u := a1) (by rw [World.cell?_setCell_other _ _ _ _ (by intro e; cases e)]; exact h1)
  · exact World.cell?_setCell_same _ _ _ (u := a2) (by rw [World.cell?_setCell_other _ _ _ _ (by intro e; cases e), World.cell?_setCell_other _ _ _ _ (by intro e; cases e)]; exact h2)

theorem OwnN.base {w : World} {B B' : Nat} {v : Value} {l : List Nt} (h : OwnN w B v l) (hB : B' ≤ B) : OwnN w B' v l := by
  refine ⟨h.1, ?_⟩
  rcases h.2 with h0 | ⟨g, cap, cur, hv, hb, rest⟩
  · exact .inl h0
  · exact .inr ⟨g, cap, cur, hv, by omega, rest⟩

/-- Run's answer, once its fault is laid in the result's cells. -/
theorem ran_set {ops : List Sc} {n : Nat} {w w0 wo : World} {r : Res} {u : Value} {N : List Nt} {j : Nat} (hr : r.1 = N) (hj : j ≤ n) (hd : ops.drop j = r.2.1) (ho : OwnN wo w0.heap.size u N) (hb0 : Below w.heap.size w w0) (hw : Below w0.heap.size w0 wo) (hlt : w.heap.size < w0.heap.size) (u0 u1 u2 : Value) :
    Ran ops n w r (.returned (.tuple #[u, .int .i64 (j : Int), fltA r.2.2])) (((wo.setCell ⟨w.heap.size, 0, none⟩ u0).setCell ⟨w.heap.size, 1, none⟩ u1).setCell ⟨w.heap.size, 2, none⟩ u2) := by
  refine ⟨u, j, rfl, hj, hd, ?_, ?_⟩
  · rw [hr]
    refine OwnN.base (B := w0.heap.size) ?_ (by omega)
    exact ownsRow_setCell_below (ownsRow_setCell_below (ownsRow_setCell_below ho (a := ⟨w.heap.size, 0, none⟩) hlt _) (a := ⟨w.heap.size, 1, none⟩) hlt _) (a := ⟨w.heap.size, 2, none⟩) hlt _
  · exact (((hb0.trans (hw.mono (by omega))).setCell (p := ⟨w.heap.size, 0, none⟩) (Nat.le_refl _) _).setCell (p := ⟨w.heap.size, 1, none⟩) (Nat.le_refl _) _).setCell (p := ⟨w.heap.size, 2, none⟩) (Nat.le_refl _) _

theorem Ran.drew {ops : List Sc} {n : Nat} {w w' : World} {r : Res} {e : Ending} (h : Ran ops n w r e w') : Ran ops n w r e w'.drew := by
  obtain ⟨u, j, h1, h2, h3, h4, h5⟩ := h
  exact ⟨u, j, h1, h2, h3, h4, h5.drew⟩

theorem runD {f : Nat} (h : RunSaid f) {A : Option Addr} {n : Nat} (c : Nat) {ops : List Sc} {j : Nat} {w : World} (hr : RdO w w.heap.size A n ops) (hn : n ≤ 60) (hi : j + 1 ≤ n) (hk : Kinds ops) (hs : Small ops) (hf : (ops.drop (j + 1)).length ≤ f) :
    Calls Try.prog 11 #[.slice A n c, .int .i64 ((j : Int) + 1)] w (Ran ops n w (rn f (ops.drop (j + 1)))) := h A n c ops (j + 1) w hr hn hi hk hs hf

/-- The place behind. -/
def posOf (ops : List Sc) (i : Nat) : Nat := ops.length - (skl 1 (ops.drop i)).length
theorem posOf_le (ops : List Sc) (i : Nat) : posOf ops i ≤ ops.length := Nat.sub_le _ _
theorem posOf_eq {ops : List Sc} {i j : Nat} (hj : j ≤ ops.length) (h : ops.drop j = skl 1 (ops.drop i)) : j = posOf ops i := by
  unfold posOf
  rw [← h, List.length_drop]
  omega
theorem posOf_drop {ops : List Sc} (i : Nat) : ops.drop (posOf ops i) = skl 1 (ops.drop i) := by
  obtain ⟨k, hk, h⟩ := skl_drop (ops.drop i) 1
  have hl : (ops.drop i).length = ops.length - i := List.length_drop
  unfold posOf
  rw [h, List.drop_drop]
  have hd : (ops.drop (i + k)).length = ops.length - (i + k) := List.length_drop
  rw [hd]
  by_cases hi : i + k ≤ ops.length
  · rw [show ops.length - (ops.length - (i + k)) = i + k by omega]
  · rw [List.drop_of_length_le (by omega), List.drop_of_length_le (by omega)]

theorem skipD {A : Option Addr} {n : Nat} (c : Nat) {ops : List Sc} {j : Nat} {w : World} (h : RdO w w.heap.size A n ops) (hn : n ≤ 60) (hj : j + 1 ≤ n) :
    Calls Try.prog 33 #[.slice A n c, .int .i64 ((j : Int) + 1)] w.drew fun e w' => e = .returned (.int .i64 (posOf ops (j + 1) : Nat)) ∧ w.drew = w' := by
  refine (skip_any A n c ops (j + 1) w.drew h hn hj).mono ?_
  rintro e w' ⟨q, rfl, hq, hd, rfl⟩
  rw [posOf_eq (by rw [h.1]; exact hq) hd]
  exact ⟨rfl, rfl⟩

theorem skipE {A : Option Addr} {n : Nat} (c : Nat) {ops : List Sc} {j : Nat} {w : World} (h : RdO w w.heap.size A n ops) (hn : n ≤ 60) (hj : j ≤ n) :
    Calls Try.prog 33 #[.slice A n c, .int .i64 (j : Int)] w.drew fun e w' => e = .returned (.int .i64 (posOf ops j : Nat)) ∧ w.drew = w' := by
  refine (skip_any A n c ops j w.drew h hn hj).mono ?_
  rintro e w' ⟨q, rfl, hq, hd, rfl⟩
  rw [posOf_eq (by rw [h.1]; exact hq) hd]
  exact ⟨rfl, rfl⟩

set_option maxHeartbeats 4000000 in
set_option maxRecDepth 100000 in
theorem run_step (f : Nat) (ih : ∀ g, g < f → RunSaid g) : RunSaid f := by
  intro A n c ops i w hr hn hi hk hs hf
  have HL := Lib.hid hr.1
  have HR := Lib.hid hr
  have HK := Lib.hid hk
  have HS := Lib.hid hs
  have IH := Lib.hid ih
  clear hr hk hs ih
  go_enter Try.func11, Try.ntmps11
  go_wp2_with fail
  have hb0 : Below w.heap.size w (w.alloc (.cells #[.int .i64 0, .string ⟨#[]⟩, .bool false] 35)) := (Below.refl _ _).alloc (Nat.le_refl _) _
  have hz0 : (w.alloc (.cells #[.int .i64 0, .string ⟨#[]⟩, .bool false] 35)).heap.size = w.heap.size + 1 := by simp
  have q0 : (w.alloc (.cells #[.int .i64 0, .string ⟨#[]⟩, .bool false] 35)).cell? ⟨w.heap.size, 0, none⟩ = some (.int .i64 0) := by simp [go_sem]
  have q1 : (w.alloc (.cells #[.int .i64 0, .string ⟨#[]⟩, .bool false] 35)).cell? ⟨w.heap.size, 1, none⟩ = some (.string ⟨#[]⟩) := by simp [go_sem]
  have q2 : (w.alloc (.cells #[.int .i64 0, .string ⟨#[]⟩, .bool false] 35)).cell? ⟨w.heap.size, 2, none⟩ = some (.bool false) := by simp [go_sem]
  have q3 : ∀ o, (w.alloc (.cells #[.int .i64 0, .string ⟨#[]⟩, .bool false] 35)).frozen? ⟨w.heap.size, o, none⟩ = false := by intro o; simp [go_sem]
  have hown0 := OwnN.lit0 (w.alloc (.cells #[.int .i64 0, .string ⟨#[]⟩, .bool false] 35))
  rw [hz0] at hown0
  generalize w.alloc (.cells #[.int .i64 0, .string ⟨#[]⟩, .bool false] 35) = w0 at hb0 hz0 q0 q1 q2 q3 hown0 ⊢
  have HR0 := Lib.hid (HR.out.next hb0)
  have HB0 := Lib.hid hb0
  have hlt0 : w.heap.size < w0.heap.size := by omega
  have hN0 : RRel ops n w0 f i i f (.slice (some ⟨w.heap.size + 1, 0, none⟩) 0 0) [] (w0.alloc (.cells #[] 40)) := by
    refine ⟨by rw [hz0]; exact hown0, (Below.refl _ _).alloc (Nat.le_refl _) _, hi, Nat.le_refl _, hf, by simp, ?_⟩
    rw [List.length_drop, HL.out]; simp; omega
  have HZ0 := Lib.hid hz0
  have Q0 := Lib.hid q0
  have Q1 := Lib.hid q1
  have Q2 := Lib.hid q2
  have Q3 := Lib.hid q3
  clear hown0 hb0 hz0 q0 q1 q2 q3
  generalize (Value.slice (some ⟨w.heap.size + 1, 0, none⟩) 0 0) = v0 at hN0 ⊢
  generalize w0.alloc (.cells #[] 40) = w1 at hN0 ⊢
  go_loopw [1, 7] (fun ix v wr => ∃ (j g : Nat) (N : List Nt), ix = .int .i64 j ∧ RRel ops n w0 f i j g v N wr) (fun ix _ _ => n - (intOf ix).toNat)
  case atStart => exact ⟨i, f, [], rfl, hN0⟩
  case round =>
    clear hN0
    obtain ⟨j, g, N, rfl, hRR⟩ := hrel
    have hjn := hRR.jn
    have hsz := hRR.below.size
    have r0 : wr.cell? ⟨w.heap.size, 0, none⟩ = some (.int .i64 0) := (hRR.below.cell (p := ⟨w.heap.size, 0, none⟩) hlt0).trans Q0.out
    have r1 : wr.cell? ⟨w.heap.size, 1, none⟩ = some (.string ⟨#[]⟩) := (hRR.below.cell (p := ⟨w.heap.size, 1, none⟩) hlt0).trans Q1.out
    have r2 : wr.cell? ⟨w.heap.size, 2, none⟩ = some (.bool false) := (hRR.below.cell (p := ⟨w.heap.size, 2, none⟩) hlt0).trans Q2.out
    have r3 : wr.frozen? ⟨w.heap.size, 0, none⟩ = false := (hRR.below.frozen (p := ⟨w.heap.size, 0, none⟩) hlt0).trans (Q3.out 0)
    have r4 : wr.frozen? ⟨w.heap.size, 1, none⟩ = false := (hRR.below.frozen (p := ⟨w.heap.size, 1, none⟩) hlt0).trans (Q3.out 1)
    have r5 : wr.frozen? ⟨w.heap.size, 2, none⟩ = false := (hRR.below.frozen (p := ⟨w.heap.size, 2, none⟩) hlt0).trans (Q3.out 2)
    have HRR := Lib.hid hRR
    clear hRR
    by_cases hlt : j < n
    · obtain ⟨x, hx⟩ : ∃ x, ops[j]? = some x := ⟨_, List.getElem?_eq_getElem (by rw [HL.out]; exact hlt)⟩
      have hrd := HR0.out.below (w' := wr) fun p hp => HRR.out.below.cell hp
      obtain ⟨ob, off, rfl, hob, hc⟩ := hrd.2 (by omega)
      obtain ⟨c0, c1, c2⟩ := hc j x hx
      have hxk := HK.out x (List.mem_of_getElem? hx)
      have hxt := HS.out x (List.mem_of_getElem? hx)
      obtain ⟨g', rfl⟩ : ∃ g', g = g' + 1 := ⟨g - 1, by
        have := HRR.out.fuel
        rw [drop_cons hx] at this
        simp at this
        omega⟩
      have hfu : (ops.drop (j + 1)).length ≤ g' := by
        have := HRR.out.fuel
        rw [drop_cons hx] at this
        simpa using this
      have hln : (ops.drop j).length = (ops.drop (j + 1)).length + 1 := by rw [drop_cons hx]; simp
      have HLN := Lib.hid hln
      have HX := Lib.hid hx
      have hoz : ob < wr.heap.size := by omega
      clear hc hx hrd hln
      have d0 : decide ((j : Int) < (n : Int)) = true := by simp; omega
      go_upto_region 5 with (fail)
      have hbo : Below wr.heap.size wr (wr.alloc (.cells #[.int .i64 (x.k : Int), .int .i64 x.c, .string x.t] 26)) := (Below.refl _ _).alloc (Nat.le_refl _) _
      have hzo : wr.heap.size < (wr.alloc (.cells #[.int .i64 (x.k : Int), .int .i64 x.c, .string x.t] 26)).heap.size := by simp
      have o0 : (wr.alloc (.cells #[.int .i64 (x.k : Int), .int .i64 x.c, .string x.t] 26)).cell? ⟨wr.heap.size, 0, none⟩ = some (.int .i64 (x.k : Int)) := by simp [go_sem]
      have o1 : (wr.alloc (.cells #[.int .i64 (x.k : Int), .int .i64 x.c, .string x.t] 26)).cell? ⟨wr.heap.size, 1, none⟩ = some (.int .i64 x.c) := by simp [go_sem]
      have o2 : (wr.alloc (.cells #[.int .i64 (x.k : Int), .int .i64 x.c, .string x.t] 26)).cell? ⟨wr.heap.size, 2, none⟩ = some (.string x.t) := by simp [go_sem]
      have s0 := (hbo.cell (p := ⟨w.heap.size, 0, none⟩) (by show w.heap.size < _; omega)).trans r0
      have s1 := (hbo.cell (p := ⟨w.heap.size, 1, none⟩) (by show w.heap.size < _; omega)).trans r1
      have s2 := (hbo.cell (p := ⟨w.heap.size, 2, none⟩) (by show w.heap.size < _; omega)).trans r2
      have s3 := (hbo.frozen (p := ⟨w.heap.size, 0, none⟩) (by show w.heap.size < _; omega)).trans r3
      have s4 := (hbo.frozen (p := ⟨w.heap.size, 1, none⟩) (by show w.heap.size < _; omega)).trans r4
      have s5 := (hbo.frozen (p := ⟨w.heap.size, 2, none⟩) (by show w.heap.size < _; omega)).trans r5
      have HW := Lib.hid (HRR.out.below.trans (hbo.mono hsz))
      have HO := Lib.hid (HRR.out.own.later hbo)
      have HRo := Lib.hid (HR0.out.next HW.out)
      have hzw : w0.heap.size ≤ (wr.alloc (.cells #[.int .i64 (x.k : Int), .int .i64 x.c, .string x.t] 26)).heap.size := by simp; omega
      have hu7 : ∀ k, u7.ownBlock = some k → k < wr.heap.size := fun k hk => (World.ownsRow.lt HRR.out.own k hk).2
      generalize wr.alloc (.cells #[.int .i64 (x.k : Int), .int .i64 x.c, .string x.t] 26) = wo at hbo hzo o0 o1 o2 s0 s1 s2 s3 s4 s5 HW HO HRo hzw ⊢
      generalize wr.heap.size = O at hbo hzo o0 o1 o2 hsz hoz hu7 ⊢
      have HU7 := Lib.hid hu7
      clear hu7
      have hOb : O ≠ w.heap.size := by omega
      clear r0 r1 r2 r3 r4 r5 hbo c0 c1 c2
      have hN1 : N.length ≤ 10000 := by have := HRR.out.small; omega
      by_cases k0 : x.k = 0
      · have b0 : ((x.k : Int) == 0) = true := by simp; omega
        have he : rn (g' + 1) (ops.drop j) = ([mark x.t] ++ (rn g' (ops.drop (j + 1))).1, (rn g' (ops.drop (j + 1))).2) := by
          rw [drop_cons HX.out, rn, if_pos k0]; rfl
        have HE := Lib.hid he
        clear he k0
        go_wp2_with (at_builtin; refine pushN wo rfl (.tmp 71) (.tmp 75) rfl w0.heap.size u7 N (mark x.t) _ rfl rfl HO.out rfl hzw hN1 ?_)
        intro v' w' ho hg' _
        have hB := OwnN.grown HO.out hg' HW.out hzw
        have HG := Lib.hid (HRR.out.go HE.out ho hB (by omega) (by omega) hfu (by rw [HLN.out]; simp; omega))
        clear ho hg' hB
        go_wp2_with fail
        go_roundw
        case rel => exact ⟨j + 1, g', _, by go_num, HG.out⟩
        case measure => simp [intOf]; omega
      by_cases k2 : x.k = 2
      · have b0 : ((x.k : Int) == 0) = false := by simp; omega
        have b2 : ((x.k : Int) == 2) = true := by simp; omega
        have he : rn (g' + 1) (ops.drop j) = ([] ++ (rn g' (ops.drop (j + 1))).1, (rn g' (ops.drop (j + 1))).2) := by
          rw [drop_cons HX.out, rn, if_neg k0, if_neg (by omega), if_pos k2]; rfl
        have HG := Lib.hid (HRR.out.go he (by rw [List.append_nil]; exact HO.out) HW.out (by omega) (by omega) hfu (by rw [HLN.out]; simp))
        clear he k0 k2
        go_wp2_with fail
        go_roundw
        case rel => exact ⟨j + 1, g', _, by go_num, HG.out⟩
        case measure => simp [intOf]; omega
      by_cases k13 : x.k = 1 ∨ x.k = 3
      · have he : rn (g' + 1) (ops.drop j) = ([], skl 1 (ops.drop (j + 1)), some (x.c, x.t)) := by
          rw [drop_cons HX.out, rn, if_neg k0, if_pos k13]
        have heq := HRR.out.eq
        rw [he] at heq
        have HE := Lib.hid heq
        have b0 : ((x.k : Int) == 0) = false := by simp; omega
        have b2 : ((x.k : Int) == 2) = false := by simp; omega
        clear he heq k0 k2
        by_cases k1 : x.k = 1
        · have b1 : ((x.k : Int) == 1) = true := by simp; omega
          clear k1 k13
          go_wp2_with fail
          go_region_held3 (fun w' => w'.cell? ⟨O, 1, none⟩ = some (.int .i64 x.c) ∧ w'.cell? ⟨O, 2, none⟩ = some (.string x.t)) (first | exact ⟨o1, o2⟩ | exact ⟨(cell3 hOb _ _ _ _ _).trans o1, (cell3 hOb _ _ _ _ _).trans o2⟩) (first | (go_at_call 33; refine (skipD c HRo.out hn hlt).mono ?_; rintro e w' ⟨rfl, rfl⟩))
          obtain ⟨t0, t1, t2⟩ := three s0 s1 s2 (.int .i64 x.c) (.string x.t) (.bool true)
          have HT := Lib.hid (ran_set (ops := ops) (n := n) (r := rn f (ops.drop i)) (N := N) (j := posOf ops (j + 1)) (by rw [HE.out]; simp) (by rw [← HL.out]; exact posOf_le _ _) (by rw [HE.out]; exact posOf_drop _) HO.out HB0.out HW.out hlt0 (.int .i64 x.c) (.string x.t) (.bool true)).drew
          go_wp2_with fail
          refine bodyPost_ret (v := .tuple #[u7, .int .i64 (posOf ops (j + 1) : Nat), fltA (rn f (ops.drop i)).2.2]) ?_ rfl HT.out
          rw [HE.out]
          simp [results, Try.results11, go_sem, fltA, t0, t1, t2]
        · have b1 : ((x.k : Int) == 1) = false := by simp; omega
          have b3 : ((x.k : Int) == 3) = true := by simp; omega
          clear k1 k13
          go_wp2_with fail
          go_region_held3 (fun w' => w'.cell? ⟨O, 1, none⟩ = some (.int .i64 x.c) ∧ w'.cell? ⟨O, 2, none⟩ = some (.string x.t)) (first | exact ⟨o1, o2⟩ | exact ⟨(cell3 hOb _ _ _ _ _).trans o1, (cell3 hOb _ _ _ _ _).trans o2⟩) (first | (go_at_call 33; refine (skipD c HRo.out hn hlt).mono ?_; rintro e w' ⟨rfl, rfl⟩))
          obtain ⟨t0, t1, t2⟩ := three s0 s1 s2 (.int .i64 x.c) (.string x.t) (.bool true)
          have HT := Lib.hid (ran_set (ops := ops) (n := n) (r := rn f (ops.drop i)) (N := N) (j := posOf ops (j + 1)) (by rw [HE.out]; simp) (by rw [← HL.out]; exact posOf_le _ _) (by rw [HE.out]; exact posOf_drop _) HO.out HB0.out HW.out hlt0 (.int .i64 x.c) (.string x.t) (.bool true)).drew
          go_wp2_with fail
          refine bodyPost_ret (v := .tuple #[u7, .int .i64 (posOf ops (j + 1) : Nat), fltA (rn f (ops.drop i)).2.2]) ?_ rfl HT.out
          rw [HE.out]
          simp [results, Try.results11, go_sem, fltA, t0, t1, t2]
      by_cases k6 : x.k = 6
      · have he : rn (g' + 1) (ops.drop j) = ([], ops.drop (j + 1), none) := by
          rw [drop_cons HX.out, rn, if_neg k0, if_neg k13, if_neg k2, if_neg (by omega), if_neg (by omega)]
        have heq := HRR.out.eq
        rw [he] at heq
        have HE := Lib.hid heq
        have b0 : ((x.k : Int) == 0) = false := by simp; omega
        have b1 : ((x.k : Int) == 1) = false := by simp; omega
        have b2 : ((x.k : Int) == 2) = false := by simp; omega
        have b3 : ((x.k : Int) == 3) = false := by simp; omega
        have b6 : ((x.k : Int) == 6) = true := by simp; omega
        clear he heq k0 k2 k13 k6
        obtain ⟨t0, t1, t2⟩ := three s0 s1 s2 (.int .i64 0) (.string ⟨#[]⟩) (.bool false)
        have HT := Lib.hid (ran_set (ops := ops) (n := n) (r := rn f (ops.drop i)) (N := N) (j := j + 1) (by rw [HE.out]; simp) hlt (by rw [HE.out]) HO.out HB0.out HW.out hlt0 (.int .i64 0) (.string ⟨#[]⟩) (.bool false))
        go_wp2_with fail
        refine bodyPost_ret (v := .tuple #[u7, .int .i64 ((j + 1 : Nat) : Int), fltA (rn f (ops.drop i)).2.2]) ?_ rfl HT.out
        rw [HE.out]
        simp [results, Try.results11, go_sem, fltA, t0, t1, t2]
      have k45 : x.k = 4 ∨ x.k = 5 := by omega
      have b0 : ((x.k : Int) == 0) = false := by simp; omega
      have b1 : ((x.k : Int) == 1) = false := by simp; omega
      have b2 : ((x.k : Int) == 2) = false := by simp; omega
      have b3 : ((x.k : Int) == 3) = false := by simp; omega
      have b6 : ((x.k : Int) == 6) = false := by simp; omega
      have hrs := rn_rest g' (ops.drop (j + 1)) (fun z hz => HK.out z (List.mem_of_mem_drop hz)) hfu
      have hsm := rn_size g' (ops.drop (j + 1)) (fun z hz => HK.out z (List.mem_of_mem_drop hz)) (fun z hz => HS.out z (List.mem_of_mem_drop hz)) hfu
      rw [hrs] at hsm
      have HRS := Lib.hid hrs
      have HSM := Lib.hid hsm.2
      have HSZ := Lib.hid hsm.1
      clear hrs hsm
      by_cases k4 : x.k = 4
      · have b4 : ((x.k : Int) == 4) = true := by simp; omega
        cases hY : (rn g' (ops.drop (j + 1))).2.2 with
        | none =>
          go_wp2_with fail
          refine (runD (IH.out g' (by have := HRR.out.gf; omega)) c HRo.out hn hlt HK.out HS.out hfu).mono ?_
          rintro e w2 ⟨nv, jj, rfl, hjj, hdd, hown2, hb2⟩
          rw [hY, fltA]
          have hjj1 : j < jj := by
            have h1 := congrArg List.length hdd
            have h2 := skl_le (ops.drop (j + 1)) 1
            rw [HRS.out, List.length_drop, HL.out] at h1
            rw [List.length_drop, HL.out] at h2
            omega
          go_upto_region 7 with (fail)
          have hb3 : Below wo.heap.size wo (w2.alloc (.cells #[.int .i64 0, .string ⟨#[]⟩, .bool false] 35)) := hb2.alloc hb2.size _
          have hz3 : w2.heap.size < (w2.alloc (.cells #[.int .i64 0, .string ⟨#[]⟩, .bool false] 35)).heap.size := by simp
          have hzF : wo.heap.size ≤ w2.heap.size := hb2.size
          have f0 : (w2.alloc (.cells #[.int .i64 0, .string ⟨#[]⟩, .bool false] 35)).cell? ⟨w2.heap.size, 0, none⟩ = some (.int .i64 0) := by simp [go_sem]
          have f1 : (w2.alloc (.cells #[.int .i64 0, .string ⟨#[]⟩, .bool false] 35)).cell? ⟨w2.heap.size, 1, none⟩ = some (.string ⟨#[]⟩) := by simp [go_sem]
          have f2 : (w2.alloc (.cells #[.int .i64 0, .string ⟨#[]⟩, .bool false] 35)).cell? ⟨w2.heap.size, 2, none⟩ = some (.bool false) := by simp [go_sem]
          have HO3 := Lib.hid (OwnN.later HO.out hb3)
          have HM3 := Lib.hid (show OwnN (w2.alloc (.cells #[.int .i64 0, .string ⟨#[]⟩, .bool false] 35)) wo.heap.size nv (rn g' (ops.drop (j + 1))).1 from World.ownsRow.alloc hown2 _)
          have HB3 := Lib.hid hb3
          have e0 : (w2.alloc (.cells #[.int .i64 0, .string ⟨#[]⟩, .bool false] 35)).cell? ⟨O, 0, none⟩ = some (.int .i64 (x.k : Int)) := (hb3.cell (p := ⟨O, 0, none⟩) hzo).trans o0
          have e2 : (w2.alloc (.cells #[.int .i64 0, .string ⟨#[]⟩, .bool false] 35)).cell? ⟨O, 2, none⟩ = some (.string x.t) := (hb3.cell (p := ⟨O, 2, none⟩) hzo).trans o2
          generalize w2.alloc (.cells #[.int .i64 0, .string ⟨#[]⟩, .bool false] 35) = w3 at hb3 hz3 f0 f1 f2 HO3 HM3 HB3 e0 e2 ⊢
          generalize w2.heap.size = F at hz3 hzF f0 f1 f2 ⊢
          have hw3 : w0.heap.size ≤ w3.heap.size := Nat.le_trans hzw hb3.size
          clear hown2 hb2 hb3 o0 o1 o2
          go_wp2_with (at_builtin; refine catN w3 rfl (.tmp 33) (.tmp 34) rfl w0.heap.size wo.heap.size u7 nv N (rn g' (ops.drop (j + 1))).1 rfl rfl HO3.out HM3.out hw3 (by have := HSM.out; have := HRR.out.small; have := HLN.out; omega) ?_)
          intro v4 w4 ho4 hg4 _
          have hbw4 : Below w0.heap.size w0 w4 := OwnN.grown HO3.out hg4 (HW.out.trans (HB3.out.mono hzw)) hw3
          have f0' := hg4.cell f0 (by intro he; have := HU7.out F he.symm; omega)
          have f1' := hg4.cell f1 (by intro he; have := HU7.out F he.symm; omega)
          have f2' := hg4.cell f2 (by intro he; have := HU7.out F he.symm; omega)
          have e0' := hg4.cell e0 (by intro he; have := HU7.out O he.symm; omega)
          have e2' := hg4.cell e2 (by intro he; have := HU7.out O he.symm; omega)
          have HO4 := Lib.hid ho4
          have HW4 := Lib.hid hbw4
          have hw4 : w0.heap.size ≤ w4.heap.size := hbw4.size
          clear ho4 hg4 hbw4 f0 f1 f2 e0 e2
          have hl4 : (N ++ (rn g' (ops.drop (j + 1))).1).length ≤ 10000 := by
            rw [List.length_append]; have := HSM.out; have := HRR.out.small; have := HLN.out; omega
          have HL4 := Lib.hid hl4
          clear hl4
          go_wp2_with (at_builtin; refine pushN w4 rfl (.tmp 40) (.tmp 43) rfl w0.heap.size v4 (N ++ (rn g' (ops.drop (j + 1))).1) (caughtN (none)) _ rfl rfl HO4.out rfl hw4 HL4.out ?_)
          intro v5 w5 ho5 hg5 _
          have hbw5 := OwnN.grown HO4.out hg5 HW4.out hw4
          have he : rn (g' + 1) (ops.drop j) = (((rn g' (ops.drop (j + 1))).1 ++ [caughtN (none)]) ++ (rn g' (ops.drop jj)).1, (rn g' (ops.drop jj)).2) := by
            rw [drop_cons HX.out, rn, if_neg k0, if_neg k13, if_neg k2, if_pos k4, hY, ← hdd]; simp
          have HG := Lib.hid (HRR.out.go (M := (rn g' (ops.drop (j + 1))).1 ++ [caughtN (none)]) he ho5 hbw5 hjj (by omega) (by rw [hdd, HRS.out]; have := skl_le (ops.drop (j + 1)) 1; omega) (by have := HSM.out; have := HLN.out; rw [hdd, HRS.out, List.length_append, List.length_singleton]; omega))
          clear ho5 hg5 hbw5 he
          go_wp2_with fail
          go_roundw
          case rel => exact ⟨jj, g', _, rfl, HG.out⟩
          case measure => simp [intOf]; omega
        | some y =>
          go_wp2_with fail
          refine (runD (IH.out g' (by have := HRR.out.gf; omega)) c HRo.out hn hlt HK.out HS.out hfu).mono ?_
          rintro e w2 ⟨nv, jj, rfl, hjj, hdd, hown2, hb2⟩
          rw [hY, fltA]
          have hjj1 : j < jj := by
            have h1 := congrArg List.length hdd
            have h2 := skl_le (ops.drop (j + 1)) 1
            rw [HRS.out, List.length_drop, HL.out] at h1
            rw [List.length_drop, HL.out] at h2
            omega
          go_upto_region 7 with (fail)
          have hb3 : Below wo.heap.size wo (w2.alloc (.cells #[.int .i64 y.1, .string y.2, .bool true] 35)) := hb2.alloc hb2.size _
          have hz3 : w2.heap.size < (w2.alloc (.cells #[.int .i64 y.1, .string y.2, .bool true] 35)).heap.size := by simp
          have hzF : wo.heap.size ≤ w2.heap.size := hb2.size
          have f0 : (w2.alloc (.cells #[.int .i64 y.1, .string y.2, .bool true] 35)).cell? ⟨w2.heap.size, 0, none⟩ = some (.int .i64 y.1) := by simp [go_sem]
          have f1 : (w2.alloc (.cells #[.int .i64 y.1, .string y.2, .bool true] 35)).cell? ⟨w2.heap.size, 1, none⟩ = some (.string y.2) := by simp [go_sem]
          have f2 : (w2.alloc (.cells #[.int .i64 y.1, .string y.2, .bool true] 35)).cell? ⟨w2.heap.size, 2, none⟩ = some (.bool true) := by simp [go_sem]
          have HO3 := Lib.hid (OwnN.later HO.out hb3)
          have HM3 := Lib.hid (show OwnN (w2.alloc (.cells #[.int .i64 y.1, .string y.2, .bool true] 35)) wo.heap.size nv (rn g' (ops.drop (j + 1))).1 from World.ownsRow.alloc hown2 _)
          have HB3 := Lib.hid hb3
          have e0 : (w2.alloc (.cells #[.int .i64 y.1, .string y.2, .bool true] 35)).cell? ⟨O, 0, none⟩ = some (.int .i64 (x.k : Int)) := (hb3.cell (p := ⟨O, 0, none⟩) hzo).trans o0
          have e2 : (w2.alloc (.cells #[.int .i64 y.1, .string y.2, .bool true] 35)).cell? ⟨O, 2, none⟩ = some (.string x.t) := (hb3.cell (p := ⟨O, 2, none⟩) hzo).trans o2
          generalize w2.alloc (.cells #[.int .i64 y.1, .string y.2, .bool true] 35) = w3 at hb3 hz3 f0 f1 f2 HO3 HM3 HB3 e0 e2 ⊢
          generalize w2.heap.size = F at hz3 hzF f0 f1 f2 ⊢
          have hw3 : w0.heap.size ≤ w3.heap.size := Nat.le_trans hzw hb3.size
          clear hown2 hb2 hb3 o0 o1 o2
          go_wp2_with (at_builtin; refine catN w3 rfl (.tmp 33) (.tmp 34) rfl w0.heap.size wo.heap.size u7 nv N (rn g' (ops.drop (j + 1))).1 rfl rfl HO3.out HM3.out hw3 (by have := HSM.out; have := HRR.out.small; have := HLN.out; omega) ?_)
          intro v4 w4 ho4 hg4 _
          have hbw4 : Below w0.heap.size w0 w4 := OwnN.grown HO3.out hg4 (HW.out.trans (HB3.out.mono hzw)) hw3
          have f0' := hg4.cell f0 (by intro he; have := HU7.out F he.symm; omega)
          have f1' := hg4.cell f1 (by intro he; have := HU7.out F he.symm; omega)
          have f2' := hg4.cell f2 (by intro he; have := HU7.out F he.symm; omega)
          have e0' := hg4.cell e0 (by intro he; have := HU7.out O he.symm; omega)
          have e2' := hg4.cell e2 (by intro he; have := HU7.out O he.symm; omega)
          have HO4 := Lib.hid ho4
          have HW4 := Lib.hid hbw4
          have hw4 : w0.heap.size ≤ w4.heap.size := hbw4.size
          clear ho4 hg4 hbw4 f0 f1 f2 e0 e2
          have hl4 : (N ++ (rn g' (ops.drop (j + 1))).1).length ≤ 10000 := by
            rw [List.length_append]; have := HSM.out; have := HRR.out.small; have := HLN.out; omega
          have HL4 := Lib.hid hl4
          clear hl4
          go_wp2_with (at_builtin; refine pushN w4 rfl (.tmp 40) (.tmp 43) rfl w0.heap.size v4 (N ++ (rn g' (ops.drop (j + 1))).1) (caughtN (some y)) _ rfl rfl HO4.out rfl hw4 HL4.out ?_)
          intro v5 w5 ho5 hg5 _
          have hbw5 := OwnN.grown HO4.out hg5 HW4.out hw4
          have he : rn (g' + 1) (ops.drop j) = (((rn g' (ops.drop (j + 1))).1 ++ [caughtN (some y)]) ++ (rn g' (ops.drop jj)).1, (rn g' (ops.drop jj)).2) := by
            rw [drop_cons HX.out, rn, if_neg k0, if_neg k13, if_neg k2, if_pos k4, hY, ← hdd]; simp
          have HG := Lib.hid (HRR.out.go (M := (rn g' (ops.drop (j + 1))).1 ++ [caughtN (some y)]) he ho5 hbw5 hjj (by omega) (by rw [hdd, HRS.out]; have := skl_le (ops.drop (j + 1)) 1; omega) (by have := HSM.out; have := HLN.out; rw [hdd, HRS.out, List.length_append, List.length_singleton]; omega))
          clear ho5 hg5 hbw5 he
          go_wp2_with fail
          go_roundw
          case rel => exact ⟨jj, g', _, rfl, HG.out⟩
          case measure => simp [intOf]; omega
      · have b4 : ((x.k : Int) == 4) = false := by simp; omega
        cases hY : (rn g' (ops.drop (j + 1))).2.2 with
        | none =>
          go_wp2_with fail
          refine (runD (IH.out g' (by have := HRR.out.gf; omega)) c HRo.out hn hlt HK.out HS.out hfu).mono ?_
          rintro e w2 ⟨nv, jj, rfl, hjj, hdd, hown2, hb2⟩
          rw [hY, fltA]
          have hjj1 : j < jj := by
            have h1 := congrArg List.length hdd
            have h2 := skl_le (ops.drop (j + 1)) 1
            rw [HRS.out, List.length_drop, HL.out] at h1
            rw [List.length_drop, HL.out] at h2
            omega
          go_upto_region 7 with (fail)
          have hb3 : Below wo.heap.size wo (w2.alloc (.cells #[.int .i64 0, .string ⟨#[]⟩, .bool false] 35)) := hb2.alloc hb2.size _
          have hz3 : w2.heap.size < (w2.alloc (.cells #[.int .i64 0, .string ⟨#[]⟩, .bool false] 35)).heap.size := by simp
          have hzF : wo.heap.size ≤ w2.heap.size := hb2.size
          have f0 : (w2.alloc (.cells #[.int .i64 0, .string ⟨#[]⟩, .bool false] 35)).cell? ⟨w2.heap.size, 0, none⟩ = some (.int .i64 0) := by simp [go_sem]
          have f1 : (w2.alloc (.cells #[.int .i64 0, .string ⟨#[]⟩, .bool false] 35)).cell? ⟨w2.heap.size, 1, none⟩ = some (.string ⟨#[]⟩) := by simp [go_sem]
          have f2 : (w2.alloc (.cells #[.int .i64 0, .string ⟨#[]⟩, .bool false] 35)).cell? ⟨w2.heap.size, 2, none⟩ = some (.bool false) := by simp [go_sem]
          have HO3 := Lib.hid (OwnN.later HO.out hb3)
          have HM3 := Lib.hid (show OwnN (w2.alloc (.cells #[.int .i64 0, .string ⟨#[]⟩, .bool false] 35)) wo.heap.size nv (rn g' (ops.drop (j + 1))).1 from World.ownsRow.alloc hown2 _)
          have HB3 := Lib.hid hb3
          have e0 : (w2.alloc (.cells #[.int .i64 0, .string ⟨#[]⟩, .bool false] 35)).cell? ⟨O, 0, none⟩ = some (.int .i64 (x.k : Int)) := (hb3.cell (p := ⟨O, 0, none⟩) hzo).trans o0
          have e2 : (w2.alloc (.cells #[.int .i64 0, .string ⟨#[]⟩, .bool false] 35)).cell? ⟨O, 2, none⟩ = some (.string x.t) := (hb3.cell (p := ⟨O, 2, none⟩) hzo).trans o2
          generalize w2.alloc (.cells #[.int .i64 0, .string ⟨#[]⟩, .bool false] 35) = w3 at hb3 hz3 f0 f1 f2 HO3 HM3 HB3 e0 e2 ⊢
          generalize w2.heap.size = F at hz3 hzF f0 f1 f2 ⊢
          have hw3 : w0.heap.size ≤ w3.heap.size := Nat.le_trans hzw hb3.size
          clear hown2 hb2 hb3 o0 o1 o2
          go_wp2_with (at_builtin; refine catN w3 rfl (.tmp 33) (.tmp 34) rfl w0.heap.size wo.heap.size u7 nv N (rn g' (ops.drop (j + 1))).1 rfl rfl HO3.out HM3.out hw3 (by have := HSM.out; have := HRR.out.small; have := HLN.out; omega) ?_)
          intro v4 w4 ho4 hg4 _
          have hbw4 : Below w0.heap.size w0 w4 := OwnN.grown HO3.out hg4 (HW.out.trans (HB3.out.mono hzw)) hw3
          have f0' := hg4.cell f0 (by intro he; have := HU7.out F he.symm; omega)
          have f1' := hg4.cell f1 (by intro he; have := HU7.out F he.symm; omega)
          have f2' := hg4.cell f2 (by intro he; have := HU7.out F he.symm; omega)
          have e0' := hg4.cell e0 (by intro he; have := HU7.out O he.symm; omega)
          have e2' := hg4.cell e2 (by intro he; have := HU7.out O he.symm; omega)
          have HO4 := Lib.hid ho4
          have HW4 := Lib.hid hbw4
          have hw4 : w0.heap.size ≤ w4.heap.size := hbw4.size
          clear ho4 hg4 hbw4 f0 f1 f2 e0 e2
          have he : rn (g' + 1) (ops.drop j) = ((rn g' (ops.drop (j + 1))).1 ++ (rn g' (ops.drop jj)).1, (rn g' (ops.drop jj)).2) := by
            rw [drop_cons HX.out, rn, if_neg k0, if_neg k13, if_neg k2, if_neg k4, if_pos (by omega), hY, ← hdd]
          have HG := Lib.hid (HRR.out.go he HO4.out HW4.out hjj (by omega) (by rw [hdd, HRS.out]; have := skl_le (ops.drop (j + 1)) 1; omega) (by have := HSM.out; have := HLN.out; rw [hdd, HRS.out]; omega))
          clear he
          go_wp2_with fail
          go_roundw
          case rel => exact ⟨jj, g', _, rfl, HG.out⟩
          case measure => simp [intOf]; omega
        | some y =>
          go_wp2_with fail
          refine (runD (IH.out g' (by have := HRR.out.gf; omega)) c HRo.out hn hlt HK.out HS.out hfu).mono ?_
          rintro e w2 ⟨nv, jj, rfl, hjj, hdd, hown2, hb2⟩
          rw [hY, fltA]
          have hjj1 : j < jj := by
            have h1 := congrArg List.length hdd
            have h2 := skl_le (ops.drop (j + 1)) 1
            rw [HRS.out, List.length_drop, HL.out] at h1
            rw [List.length_drop, HL.out] at h2
            omega
          go_upto_region 7 with (fail)
          have hb3 : Below wo.heap.size wo (w2.alloc (.cells #[.int .i64 y.1, .string y.2, .bool true] 35)) := hb2.alloc hb2.size _
          have hz3 : w2.heap.size < (w2.alloc (.cells #[.int .i64 y.1, .string y.2, .bool true] 35)).heap.size := by simp
          have hzF : wo.heap.size ≤ w2.heap.size := hb2.size
          have f0 : (w2.alloc (.cells #[.int .i64 y.1, .string y.2, .bool true] 35)).cell? ⟨w2.heap.size, 0, none⟩ = some (.int .i64 y.1) := by simp [go_sem]
          have f1 : (w2.alloc (.cells #[.int .i64 y.1, .string y.2, .bool true] 35)).cell? ⟨w2.heap.size, 1, none⟩ = some (.string y.2) := by simp [go_sem]
          have f2 : (w2.alloc (.cells #[.int .i64 y.1, .string y.2, .bool true] 35)).cell? ⟨w2.heap.size, 2, none⟩ = some (.bool true) := by simp [go_sem]
          have HO3 := Lib.hid (OwnN.later HO.out hb3)
          have HM3 := Lib.hid (show OwnN (w2.alloc (.cells #[.int .i64 y.1, .string y.2, .bool true] 35)) wo.heap.size nv (rn g' (ops.drop (j + 1))).1 from World.ownsRow.alloc hown2 _)
          have HB3 := Lib.hid hb3
          have e0 : (w2.alloc (.cells #[.int .i64 y.1, .string y.2, .bool true] 35)).cell? ⟨O, 0, none⟩ = some (.int .i64 (x.k : Int)) := (hb3.cell (p := ⟨O, 0, none⟩) hzo).trans o0
          have e2 : (w2.alloc (.cells #[.int .i64 y.1, .string y.2, .bool true] 35)).cell? ⟨O, 2, none⟩ = some (.string x.t) := (hb3.cell (p := ⟨O, 2, none⟩) hzo).trans o2
          generalize w2.alloc (.cells #[.int .i64 y.1, .string y.2, .bool true] 35) = w3 at hb3 hz3 f0 f1 f2 HO3 HM3 HB3 e0 e2 ⊢
          generalize w2.heap.size = F at hz3 hzF f0 f1 f2 ⊢
          have hw3 : w0.heap.size ≤ w3.heap.size := Nat.le_trans hzw hb3.size
          clear hown2 hb2 hb3 o0 o1 o2
          go_wp2_with (at_builtin; refine catN w3 rfl (.tmp 33) (.tmp 34) rfl w0.heap.size wo.heap.size u7 nv N (rn g' (ops.drop (j + 1))).1 rfl rfl HO3.out HM3.out hw3 (by have := HSM.out; have := HRR.out.small; have := HLN.out; omega) ?_)
          intro v4 w4 ho4 hg4 _
          have hbw4 : Below w0.heap.size w0 w4 := OwnN.grown HO3.out hg4 (HW.out.trans (HB3.out.mono hzw)) hw3
          have f0' := hg4.cell f0 (by intro he; have := HU7.out F he.symm; omega)
          have f1' := hg4.cell f1 (by intro he; have := HU7.out F he.symm; omega)
          have f2' := hg4.cell f2 (by intro he; have := HU7.out F he.symm; omega)
          have e0' := hg4.cell e0 (by intro he; have := HU7.out O he.symm; omega)
          have e2' := hg4.cell e2 (by intro he; have := HU7.out O he.symm; omega)
          have HO4 := Lib.hid ho4
          have HW4 := Lib.hid hbw4
          have hw4 : w0.heap.size ≤ w4.heap.size := hbw4.size
          clear ho4 hg4 hbw4 f0 f1 f2 e0 e2
          have hys := HSZ.out y hY
          have hyl : (ops.drop (j + 1)).length ≤ 60 := by rw [List.length_drop, HL.out]; omega
          have hys2 : y.2.size ≤ 4000 := by omega
          have heq := HRR.out.eq
          have he : rn (g' + 1) (ops.drop j) = ((rn g' (ops.drop (j + 1))).1, skl 1 (ops.drop jj), some (y.1, ins x.t y.2)) := by
            rw [drop_cons HX.out, rn, if_neg k0, if_neg k13, if_neg k2, if_neg k4, if_pos (by omega), hY, ← hdd]
          rw [he] at heq
          have HE := Lib.hid heq
          have HD := Lib.hid hdd
          have s0' : w4.cell? ⟨w.heap.size, 0, none⟩ = some (.int .i64 0) := (HW4.out.cell (p := ⟨w.heap.size, 0, none⟩) hlt0).trans Q0.out
          have s1' : w4.cell? ⟨w.heap.size, 1, none⟩ = some (.string ⟨#[]⟩) := (HW4.out.cell (p := ⟨w.heap.size, 1, none⟩) hlt0).trans Q1.out
          have s2' : w4.cell? ⟨w.heap.size, 2, none⟩ = some (.bool false) := (HW4.out.cell (p := ⟨w.heap.size, 2, none⟩) hlt0).trans Q2.out
          have s3' : w4.frozen? ⟨w.heap.size, 0, none⟩ = false := (HW4.out.frozen (p := ⟨w.heap.size, 0, none⟩) hlt0).trans (Q3.out 0)
          have s4' : w4.frozen? ⟨w.heap.size, 1, none⟩ = false := (HW4.out.frozen (p := ⟨w.heap.size, 1, none⟩) hlt0).trans (Q3.out 1)
          have s5' : w4.frozen? ⟨w.heap.size, 2, none⟩ = false := (HW4.out.frozen (p := ⟨w.heap.size, 2, none⟩) hlt0).trans (Q3.out 2)
          have HR4 := Lib.hid (HR0.out.next HW4.out)
          have hFb : F ≠ w.heap.size := by omega
          clear heq he hdd s0 s1 s2 s3 s4 s5 hys hyl HO3 HM3 HB3
          obtain ⟨t0, t1, t2⟩ := three s0' s1' s2' (.int .i64 y.1) (.string (ins x.t y.2)) (.bool true)
          have HT := Lib.hid (ran_set (ops := ops) (n := n) (r := rn f (ops.drop i)) (N := N ++ (rn g' (ops.drop (j + 1))).1) (j := posOf ops jj) (by rw [HE.out]) (by rw [← HL.out]; exact posOf_le _ _) (by rw [HE.out]; exact posOf_drop _) HO4.out HB0.out HW4.out hlt0 (.int .i64 y.1) (.string (ins x.t y.2)) (.bool true)).drew
          cases hem : y.2.toList.isEmpty
          · have hins : ins x.t y.2 = x.t ++ ⟨#[46]⟩ ++ y.2 := by unfold ins; rw [hem]; rfl
            have HI := Lib.hid hins
            clear hins hY
            go_wp2_with fail
            rw [← HI.out]
            go_region_held3 (fun w' => w'.cell? ⟨F, 0, none⟩ = some (.int .i64 y.1)) (first | exact f0' | exact (cell3 hFb _ _ _ _ _).trans f0') (first | (go_at_call 33; refine (skipE c HR4.out hn hjj).mono ?_; rintro e w' ⟨rfl, rfl⟩))
            go_wp2_with fail
            refine bodyPost_ret (v := .tuple #[v4, .int .i64 (posOf ops jj : Nat), fltA (rn f (ops.drop i)).2.2]) ?_ rfl HT.out
            rw [HE.out]
            simp [results, Try.results11, go_sem, fltA, t0, t1, t2]
          · have hins : ins x.t y.2 = x.t := by unfold ins; rw [hem]; rfl
            have HI := Lib.hid hins
            rw [HI.out] at t0 t1 t2 HT
            clear hins hY
            go_wp2_with fail
            go_region_held3 (fun w' => w'.cell? ⟨F, 0, none⟩ = some (.int .i64 y.1)) (first | exact f0' | exact (cell3 hFb _ _ _ _ _).trans f0') (first | (go_at_call 33; refine (skipE c HR4.out hn hjj).mono ?_; rintro e w' ⟨rfl, rfl⟩))
            go_wp2_with fail
            refine bodyPost_ret (v := .tuple #[v4, .int .i64 (posOf ops jj : Nat), fltA (rn f (ops.drop i)).2.2]) ?_ rfl HT.out
            rw [HE.out]
            simp [results, Try.results11, go_sem, fltA, t0, t1, t2, HI.out]
    · have he : rn g (ops.drop j) = ([], [], none) := by
        rw [List.drop_of_length_le (by rw [HL.out]; omega)]
        cases g <;> rfl
      have heq := HRR.out.eq
      rw [he] at heq
      have HE := Lib.hid heq
      have HW := Lib.hid HRR.out.below
      have HO := Lib.hid HRR.out.own
      clear he heq
      have d0 : decide ((j : Int) < (n : Int)) = false := by simp; omega
      obtain ⟨t0, t1, t2⟩ := three r0 r1 r2 (.int .i64 0) (.string ⟨#[]⟩) (.bool false)
      have HT := Lib.hid (ran_set (ops := ops) (n := n) (r := rn f (ops.drop i)) (N := N) (j := j) (by rw [HE.out]; simp) hjn (by rw [HE.out]; exact List.drop_of_length_le (by rw [HL.out]; omega)) HO.out HB0.out HW.out hlt0 (.int .i64 0) (.string ⟨#[]⟩) (.bool false))
      go_wp2_with fail
      refine bodyPost_ret (v := .tuple #[u7, .int .i64 (j : Int), fltA (rn f (ops.drop i)).2.2]) ?_ rfl HT.out
      rw [HE.out]
      simp [results, Try.results11, go_sem, fltA, t0, t1, t2]
end Go.Proofs.Ytmjpdncgapbfpaa
