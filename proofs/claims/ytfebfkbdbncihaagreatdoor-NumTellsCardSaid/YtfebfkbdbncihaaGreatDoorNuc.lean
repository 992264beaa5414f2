/- Contract of split. -/
import Derived.Test.YtfebfkbdbncihaaGreatDoorNub
import Derived.Test.YtfebfkbdbncihaaGreatDoorRowLaw
namespace Go.Proofs.YtfebfkbdbncihaaGreatDoor
set_option maxRecDepth 20000
open Go.RowKit

def spM (l : List UInt8) : Bool := cutB 45 l
def sp1 (l : List UInt8) : List UInt8 := cutR 45 l
def spA (l : List UInt8) : List UInt8 := figs (sp1 l)
def sp2 (l : List UInt8) : List UInt8 := rest (sp1 l)
def spD (l : List UInt8) : Bool := cutB 46 (sp2 l)
def sp3 (l : List UInt8) : List UInt8 := cutR 46 (sp2 l)
def spB (l : List UInt8) : List UInt8 := if spD l then figs (sp3 l) else []
def sp4 (l : List UInt8) : List UInt8 := if spD l then rest (sp3 l) else sp2 l
def spZ (l : List UInt8) : Int := if (sp4 l).isEmpty then 0 else powZ (sp4 l).tail
/-- Figures that may stand ahead of a point. -/
def leadOk (A : List UInt8) : Bool := match A with | [] => false | a :: A => !(a == 48) || A.isEmpty
def spOk (l : List UInt8) : Bool := leadOk (spA l) && (!spD l || !(spB l).isEmpty) && ((sp4 l).isEmpty || powOk (sp4 l))
/-- What split leaves. -/
def SpM (w : World) (l : List UInt8) (e : Ending) (w' : World) : Prop :=
  Below w.heap.size w w' ∧ ∃ (m : Bool) (a b : ByteArray) (z : Int), e = .returned (.tuple #[.agg #[.bool m, .string a, .string b, .int .i64 z], .bool (spOk l)]) ∧ (spOk l = true → m = spM l ∧ a = tx (spA l) ∧ b = tx (spB l) ∧ z = spZ l)
theorem size56 : (Tryz.prog.info? 56).map (·.size) = some 4 := by kernel_rfl
/-- Two variables of parts: block N is untouched yet, the one behind it holds cs; all below N is as it was. -/
structure TW (w : World) (N : Nat) (W : World) (cs : Array Value) : Prop where
  r0 : Row W N #[.bool false, .string ⟨#[]⟩, .string ⟨#[]⟩, .int .i64 0] 56
  r1 : Row W (N + 1) cs 56
  bl : Below N w W
  sz : N + 2 ≤ W.heap.size
theorem tw_new (w : World) (B : Array Value) (k : Nat) : TW w w.heap.size (((w.alloc (.cells #[.bool false, .string ⟨#[]⟩, .string ⟨#[]⟩, .int .i64 0] 56)).alloc (.cells B 56)).drewN k) B := by
  generalize hA : #[Value.bool false, .string ⟨#[]⟩, .string ⟨#[]⟩, .int .i64 0] = A
  have h1 := Row.new w A 56
  have g2 := World.grownBy_alloc (w.alloc (.cells A 56)) (.cells B 56) none
  have h2 := Row.new (w.alloc (.cells A 56)) B 56
  have e : (w.alloc (.cells A 56)).heap.size = w.heap.size + 1 := by simp
  rw [e] at h2
  have b1 : Below w.heap.size w (w.alloc (.cells A 56)) := below_make (World.grownBy_alloc w _ none)
  have b2 : Below w.heap.size w ((w.alloc (.cells A 56)).alloc (.cells B 56)) := b1.grown g2 (by rw [e]; omega) (fun _ h => by cases h)
  have h3 : Row ((w.alloc (.cells A 56)).alloc (.cells B 56)) w.heap.size A 56 := h1.grown g2 (by simp)
  generalize hW : (w.alloc (.cells A 56)).alloc (.cells B 56) = W at h2 h3 b2
  have hs : W.heap.size = w.heap.size + 2 := by rw [← hW]; simp
  subst hA
  exact ⟨h3, h2, ⟨b2.os, b2.tape, b2.output, b2.size, b2.block⟩, Nat.le_of_eq hs.symm⟩
section
variable {w W W' : World} {N : Nat} {cs : Array Value}
theorem TW.grown (h : TW w N W cs) (hg : W.grownBy W' none) : TW w N W' cs :=
  ⟨h.r0.grown hg (by simp), h.r1.grown hg (by simp), h.bl.grown hg (by have := h.sz; omega) (fun _ e => by cases e), Nat.le_trans h.sz hg.size⟩
theorem TW.below (h : TW w N W cs) (hb : Below W.heap.size W W') : TW w N W' cs :=
  ⟨h.r0.below hb h.r0.lt, h.r1.below hb h.r1.lt, h.bl.trans (hb.mono (by have := h.sz; omega)), Nat.le_trans h.sz hb.size⟩
theorem TW.set (h : TW w N W cs) (i : Nat) (v : Value) : TW w N (W.setCell ⟨N + 1, i, none⟩ v) (cs.setIfInBounds i v) := by
  have hg := grown_setCell W (N + 1) i v
  exact ⟨h.r0.other (by omega) i v, h.r1.set i v, h.bl.grown hg (by have := h.sz; omega) (fun k e => by injection e with e; omega), Nat.le_trans h.sz hg.size⟩
/-- Four cells put into the first one. -/
theorem TW.fin (h : TW w N W cs) (a b c d : Value) : Row ((((W.setCell ⟨N, 0, none⟩ a).setCell ⟨N, 1, none⟩ b).setCell ⟨N, 2, none⟩ c).setCell ⟨N, 3, none⟩ d) N #[a, b, c, d] 56 ∧
    Below N w ((((W.setCell ⟨N, 0, none⟩ a).setCell ⟨N, 1, none⟩ b).setCell ⟨N, 2, none⟩ c).setCell ⟨N, 3, none⟩ d) := by
  refine ⟨(((h.r0.set 0 a).set 1 b).set 2 c).set 3 d, ?_⟩
  have hs := h.sz
  have g0 := grown_setCell W N 0 a
  have b0 := h.bl.grown g0 (by omega) (fun k e => by injection e with e; omega)
  have g1 := grown_setCell (W.setCell ⟨N, 0, none⟩ a) N 1 b
  have b1 := b0.grown g1 (by have := g0.size; omega) (fun k e => by injection e with e; omega)
  have g2 := grown_setCell ((W.setCell ⟨N, 0, none⟩ a).setCell ⟨N, 1, none⟩ b) N 2 c
  have b2 := b1.grown g2 (by have := g0.size; have := g1.size; omega) (fun k e => by injection e with e; omega)
  exact b2.grown (grown_setCell _ N 3 d) (by have := g0.size; have := g1.size; have := g2.size; omega) (fun k e => by injection e with e; omega)
end
set_option maxHeartbeats 4000000 in
theorem split_1 (l : List UInt8) (w : World) (hl : l.length ≤ 100000) (hA : spA l = []) : Calls Tryz.prog 38 #[.string (tx l)] w (SpM w l) := by
  have HO : RowKit.Hid (spOk l = false) := Lib.hid (by unfold spOk leadOk; rw [hA]; rfl)
  have HC1 := Lib.hid (cutp_any 45 l)
  have HF1 := Lib.hid (fun w => figures_any (cutR 45 l) w (Nat.le_trans (cutR_le _ _) (by omega)))
  have hA1 : (tx (figs (cutR 45 l))).toList = [] := by rw [tx_toList]; exact hA
  clear hA
  generalize tx (figs (cutR 45 l)) = sA at HF1 hA1
  generalize cutB 45 l = mB at HC1
  go_enter Tryz.func38, Tryz.ntmps38
  go_wp2_with (first | (go_at_call 50; refine (HC1.out _).mono ?_; rintro e w1 ⟨rfl, rfl⟩))
  refine (HF1.out _).mono ?_
  rintro e w3 ⟨rfl, k, rfl⟩
  have HX := Lib.hid (tw_new w #[.bool mB, .string ⟨#[]⟩, .string ⟨#[]⟩, .int .i64 0] k)
  clear HC1 HF1
  generalize ((w.alloc (.cells #[.bool false, .string ⟨#[]⟩, .string ⟨#[]⟩, .int .i64 0] 56)).alloc (.cells #[.bool mB, .string ⟨#[]⟩, .string ⟨#[]⟩, .int .i64 0] 56)).drewN k = W at HX ⊢
  generalize hN : w.heap.size = N at HX ⊢
  have HNN := Lib.hid hN
  have n0 : W.cell? ⟨N, 0, none⟩ = some (.bool false) := HX.out.r0.cell 0
  have n1 : W.cell? ⟨N, 1, none⟩ = some (.string ⟨#[]⟩) := HX.out.r0.cell 1
  have n2 : W.cell? ⟨N, 2, none⟩ = some (.string ⟨#[]⟩) := HX.out.r0.cell 2
  have n3 : W.cell? ⟨N, 3, none⟩ = some (.int .i64 0) := HX.out.r0.cell 3
  have q0 : W.cell? ⟨N + 1, 0, none⟩ = some (.bool mB) := HX.out.r1.cell 0
  have q1 : W.cell? ⟨N + 1, 1, none⟩ = some (.string ⟨#[]⟩) := HX.out.r1.cell 1
  have q2 : W.cell? ⟨N + 1, 2, none⟩ = some (.string ⟨#[]⟩) := HX.out.r1.cell 2
  have q3 : W.cell? ⟨N + 1, 3, none⟩ = some (.int .i64 0) := HX.out.r1.cell 3
  have f0 : ∀ j, W.frozen? ⟨N, j, none⟩ = false := fun j => HX.out.r0.thawed j
  have f1 : ∀ j, W.frozen? ⟨N + 1, j, none⟩ = false := fun j => HX.out.r1.thawed j
  clear hN
  go_wp2_with fail
  obtain ⟨hr, hb⟩ := (HX.out.set 1 (.string sA)).fin (.bool false) (.string ⟨#[]⟩) (.string ⟨#[]⟩) (.int .i64 0)
  exact bodyPost_ret (results_two rfl _ _ N 56 _ _ _ rfl rfl hr Tryz.underlying56 rfl size56) rfl ⟨by rw [HNN.out]; exact hb, _, _, _, _, by rw [HO.out]; rfl, fun h => by rw [HO.out] at h; cases h⟩
set_option maxHeartbeats 4000000 in
theorem split_2 (l : List UInt8) (w : World) (hl : l.length ≤ 100000) (a : UInt8) (A : List UInt8) (hA : spA l = a :: A) (hz : leadOk (spA l) = false) : Calls Tryz.prog 38 #[.string (tx l)] w (SpM w l) := by
  have HO : RowKit.Hid (spOk l = false) := Lib.hid (by unfold spOk; rw [hz]; rfl)
  have HC1 := Lib.hid (cutp_any 45 l)
  have HF1 := Lib.hid (fun w => figures_any (cutR 45 l) w (Nat.le_trans (cutR_le _ _) (by omega)))
  have hA1 : ¬ (tx (figs (cutR 45 l))).toList = [] := by rw [tx_toList]; intro e; rw [show figs (cutR 45 l) = _ from hA] at e; cases e
  have hA2 : (tx (figs (cutR 45 l))).toList.isEmpty = false := by rw [tx_toList, show figs (cutR 45 l) = _ from hA]; rfl
  have hi := idx (figs (cutR 45 l)) 0 a (by rw [show figs (cutR 45 l) = _ from hA]; rfl)
  rw [Int.natCast_zero] at hi
  have ha : a = 48 ∧ A.isEmpty = false := by
    rw [hA] at hz
    unfold leadOk at hz
    simpa using hz
  have hA3 : ((tx (figs (cutR 45 l))).toList == [48]) = false := by
    rw [tx_toList, show figs (cutR 45 l) = _ from hA, beq_eq_false_iff_ne]
    intro e
    injection e with _ e
    rw [e] at ha
    cases ha.2
  rw [ha.1] at hi
  clear hA hz ha
  generalize tx (figs (cutR 45 l)) = sA at HF1 hA1 hA2 hA3 hi
  generalize cutB 45 l = mB at HC1
  go_enter Tryz.func38, Tryz.ntmps38
  go_wp2_with (first | (go_at_call 50; refine (HC1.out _).mono ?_; rintro e w1 ⟨rfl, rfl⟩))
  refine (HF1.out _).mono ?_
  rintro e w3 ⟨rfl, k, rfl⟩
  have HX := Lib.hid (tw_new w #[.bool mB, .string ⟨#[]⟩, .string ⟨#[]⟩, .int .i64 0] k)
  clear HC1 HF1
  generalize ((w.alloc (.cells #[.bool false, .string ⟨#[]⟩, .string ⟨#[]⟩, .int .i64 0] 56)).alloc (.cells #[.bool mB, .string ⟨#[]⟩, .string ⟨#[]⟩, .int .i64 0] 56)).drewN k = W at HX ⊢
  generalize hN : w.heap.size = N at HX ⊢
  have HNN := Lib.hid hN
  have n0 : W.cell? ⟨N, 0, none⟩ = some (.bool false) := HX.out.r0.cell 0
  have n1 : W.cell? ⟨N, 1, none⟩ = some (.string ⟨#[]⟩) := HX.out.r0.cell 1
  have n2 : W.cell? ⟨N, 2, none⟩ = some (.string ⟨#[]⟩) := HX.out.r0.cell 2
  have n3 : W.cell? ⟨N, 3, none⟩ = some (.int .i64 0) := HX.out.r0.cell 3
  have q0 : W.cell? ⟨N + 1, 0, none⟩ = some (.bool mB) := HX.out.r1.cell 0
  have q1 : W.cell? ⟨N + 1, 1, none⟩ = some (.string ⟨#[]⟩) := HX.out.r1.cell 1
  have q2 : W.cell? ⟨N + 1, 2, none⟩ = some (.string ⟨#[]⟩) := HX.out.r1.cell 2
  have q3 : W.cell? ⟨N + 1, 3, none⟩ = some (.int .i64 0) := HX.out.r1.cell 3
  have f0 : ∀ j, W.frozen? ⟨N, j, none⟩ = false := fun j => HX.out.r0.thawed j
  have f1 : ∀ j, W.frozen? ⟨N + 1, j, none⟩ = false := fun j => HX.out.r1.thawed j
  clear hN
  go_wp2_with fail
  obtain ⟨hr, hb⟩ := (HX.out.set 1 (.string sA)).fin (.bool false) (.string ⟨#[]⟩) (.string ⟨#[]⟩) (.int .i64 0)
  exact bodyPost_ret (results_two rfl _ _ N 56 _ _ _ rfl rfl hr Tryz.underlying56 rfl size56) rfl ⟨by rw [HNN.out]; exact hb, _, _, _, _, by rw [HO.out]; rfl, fun h => by rw [HO.out] at h; cases h⟩
set_option maxHeartbeats 8000000 in
theorem split_3 (l : List UInt8) (w : World) (hl : l.length ≤ 100000) (a : UInt8) (A : List UInt8) (hA : spA l = a :: A) (hz : leadOk (spA l) = true) : Calls Tryz.prog 38 #[.string (tx l)] w (SpM w l) := by
  have hO : spOk l = ((!spD l || !(spB l).isEmpty) && ((sp4 l).isEmpty || powOk (sp4 l))) := by unfold spOk; rw [hz, Bool.true_and]
  have HZ : RowKit.Hid (spZ l = if (sp4 l).isEmpty then 0 else powZ (sp4 l).tail) := Lib.hid rfl
  have HB : RowKit.Hid (spB l = if spD l then figs (sp3 l) else []) := Lib.hid rfl
  have H4 : RowKit.Hid (sp4 l = if spD l then rest (sp3 l) else sp2 l) := Lib.hid rfl
  have HC1 := Lib.hid (cutp_any 45 l)
  have HF1 := Lib.hid (fun w => figures_any (cutR 45 l) w (Nat.le_trans (cutR_le _ _) (by omega)))
  have hA1 : ¬ (tx (figs (cutR 45 l))).toList = [] := by rw [tx_toList]; intro e; rw [show figs (cutR 45 l) = _ from hA] at e; cases e
  have hA2 : (tx (figs (cutR 45 l))).toList.isEmpty = false := by rw [tx_toList, show figs (cutR 45 l) = _ from hA]; rfl
  have hi := idx (figs (cutR 45 l)) 0 a (by rw [show figs (cutR 45 l) = _ from hA]; rfl)
  rw [Int.natCast_zero] at hi
  have hA3 : (a ≠ 48) ∨ (a = 48 ∧ ((tx (figs (cutR 45 l))).toList == [48]) = true) := by
    by_cases h48 : a = 48
    · right
      refine ⟨h48, ?_⟩
      rw [tx_toList, show figs (cutR 45 l) = _ from hA, h48]
      rw [hA] at hz
      unfold leadOk at hz
      rw [h48] at hz
      have : A = [] := by simpa using hz
      rw [this]; rfl
    · exact .inl h48
  have HAE : RowKit.Hid (tx (spA l) = tx (figs (cutR 45 l))) := Lib.hid rfl
  have HMB : RowKit.Hid (spM l = cutB 45 l) := Lib.hid rfl
  have hl2 : (rest (cutR 45 l)).length ≤ 100000 := Nat.le_trans (rest_le _) (Nat.le_trans (cutR_le _ _) hl)
  have HC2 := Lib.hid (cutp_any 46 (rest (cutR 45 l)))
  have HF2 := Lib.hid (fun w => figures_any (cutR 46 (rest (cutR 45 l))) w (Nat.le_trans (cutR_le _ _) (by omega)))
  have HL4 : RowKit.Hid ((sp4 l).length ≤ 100000) := Lib.hid (by
    rw [H4.out]
    split
    · exact Nat.le_trans (rest_le _) (Nat.le_trans (cutR_le _ _) hl2)
    · exact hl2)
  have HD : RowKit.Hid (spD l = cutB 46 (sp2 l)) := Lib.hid rfl
  have H3 : RowKit.Hid (sp3 l = cutR 46 (rest (cutR 45 l))) := Lib.hid rfl
  have H2 : RowKit.Hid (sp2 l = rest (cutR 45 l)) := Lib.hid rfl
  rw [← H3.out] at HC2 HF2
  rw [← H2.out] at HF1 HC2
  rw [← HD.out] at HC2
  clear hA hz hl2 H3 H2 HD
  generalize tx (figs (cutR 45 l)) = sA at HF1 hA1 hA2 hA3 hi HAE
  generalize cutB 45 l = mB at HC1 HMB
  have hia : (∀ w, (Instr.index 9 (.string sA) (.int .i64 0)).run Tryz.prog w = .ok (.int .u8 (a.toNat : Int)) w) := hi
  clear hi
  have hm48 : ((a.toNat : Int) == 48) = false ∨ (((a.toNat : Int) == 48) = true ∧ (sA.toList == [48]) = true) := by
    rcases hA3 with h | ⟨h, h2⟩
    · left
      rw [beq_eq_false_iff_ne]
      intro e
      exact h (UInt8.toNat_inj.1 (by show a.toNat = 48; omega))
    · right
      subst h
      exact ⟨rfl, h2⟩
  clear hA3
  generalize (a.toNat : Int) = m at hia hm48
  cases hD : spD l
  · rw [hD] at hO HC2 HB H4
    rw [if_neg (by decide)] at HB H4
    have hO2 : spOk l = ((sp4 l).isEmpty || powOk (sp4 l)) := by rw [hO]; rfl
    rw [← H4.out] at HF1 HC2
    have HBE : RowKit.Hid (tx (spB l) = ⟨#[]⟩) := Lib.hid (by rw [HB.out]; rfl)
    clear hO hD HF2 HB H4
    cases hE : (sp4 l).isEmpty
    · rw [hE] at hO2 HZ
      rw [if_neg (by decide)] at HZ
      obtain ⟨c, T, hct⟩ : ∃ c T, sp4 l = c :: T := by
        cases h : sp4 l with
        | nil => rw [h] at hE; cases hE
        | cons c T => exact ⟨c, T, rfl⟩
      have HP := Lib.hid (fun wx => power_any c T wx (by have := HL4.out; rw [hct] at this; simp at this; omega))
      have hL1 : (tx (sp4 l)).toList.isEmpty = false := by rw [tx_toList]; exact hE
      have hL2 : ¬ (tx (sp4 l)).toList = [] := by rw [tx_toList, hct]; intro e; cases e
      rw [← hct] at HP
      have HT : RowKit.Hid ((sp4 l).tail = T) := Lib.hid (by rw [hct]; rfl)
      have HO : RowKit.Hid (spOk l = powOk (sp4 l)) := Lib.hid (by rw [hO2]; rfl)
      clear hO2 hE hct
      generalize sp4 l = L at *
      generalize tx L = s4 at hL1 hL2 HP HF1 HC2
      rcases hm48 with hm | ⟨hm, hm2⟩
      all_goals
        go_enter Tryz.func38, Tryz.ntmps38
        go_wp2_with (first | (go_at_call 50; refine (HC1.out _).mono ?_; rintro e w1 ⟨rfl, rfl⟩))
        refine (HF1.out _).mono ?_
        rintro e w3 ⟨rfl, k, rfl⟩
        have HX := Lib.hid (tw_new w #[.bool mB, .string ⟨#[]⟩, .string ⟨#[]⟩, .int .i64 0] k)
        clear HC1 HF1
        generalize ((w.alloc (.cells #[.bool false, .string ⟨#[]⟩, .string ⟨#[]⟩, .int .i64 0] 56)).alloc (.cells #[.bool mB, .string ⟨#[]⟩, .string ⟨#[]⟩, .int .i64 0] 56)).drewN k = W at HX ⊢
        generalize hN : w.heap.size = N at HX ⊢
        have HNN := Lib.hid hN
        have n0 : W.cell? ⟨N, 0, none⟩ = some (.bool false) := HX.out.r0.cell 0
        have n1 : W.cell? ⟨N, 1, none⟩ = some (.string ⟨#[]⟩) := HX.out.r0.cell 1
        have n2 : W.cell? ⟨N, 2, none⟩ = some (.string ⟨#[]⟩) := HX.out.r0.cell 2
        have n3 : W.cell? ⟨N, 3, none⟩ = some (.int .i64 0) := HX.out.r0.cell 3
        have q0 : W.cell? ⟨N + 1, 0, none⟩ = some (.bool mB) := HX.out.r1.cell 0
        have q1 : W.cell? ⟨N + 1, 1, none⟩ = some (.string ⟨#[]⟩) := HX.out.r1.cell 1
        have q2 : W.cell? ⟨N + 1, 2, none⟩ = some (.string ⟨#[]⟩) := HX.out.r1.cell 2
        have q3 : W.cell? ⟨N + 1, 3, none⟩ = some (.int .i64 0) := HX.out.r1.cell 3
        have f0 : ∀ j, W.frozen? ⟨N, j, none⟩ = false := fun j => HX.out.r0.thawed j
        have f1 : ∀ j, W.frozen? ⟨N + 1, j, none⟩ = false := fun j => HX.out.r1.thawed j
        clear hN
        go_wp2_with (first | (go_at_call 50; refine (HC2.out _).mono ?_; rintro e w5 ⟨rfl, rfl⟩))
        refine (HP.out _).mono ?_
        rintro e w6 ⟨rfl, hb6⟩
        have HY := Lib.hid ((HX.out.set 1 (.string sA)).below hb6)
        obtain ⟨ok, hok⟩ : ∃ ok, powOk L = ok := ⟨_, rfl⟩
        rw [hok]
        obtain ⟨zz, hzz⟩ : ∃ zz, (if ok then powZ L.tail else 0) = zz := ⟨_, rfl⟩
        rw [hzz]
        have HOK := Lib.hid (And.intro hok hzz)
        clear hok hzz hb6 HX n0 n1 n2 n3 q0 q1 q2 q3 f0 f1
        have HX := HY
        clear HY
        have n0 : w6.cell? ⟨N, 0, none⟩ = some (.bool false) := HX.out.r0.cell 0
        have n1 : w6.cell? ⟨N, 1, none⟩ = some (.string ⟨#[]⟩) := HX.out.r0.cell 1
        have n2 : w6.cell? ⟨N, 2, none⟩ = some (.string ⟨#[]⟩) := HX.out.r0.cell 2
        have n3 : w6.cell? ⟨N, 3, none⟩ = some (.int .i64 0) := HX.out.r0.cell 3
        have q0 : w6.cell? ⟨N + 1, 0, none⟩ = some (.bool mB) := HX.out.r1.cell 0
        have q1 : w6.cell? ⟨N + 1, 1, none⟩ = some (.string sA) := HX.out.r1.cell 1
        have q2 : w6.cell? ⟨N + 1, 2, none⟩ = some (.string ⟨#[]⟩) := HX.out.r1.cell 2
        have q3 : w6.cell? ⟨N + 1, 3, none⟩ = some (.int .i64 0) := HX.out.r1.cell 3
        have f0 : ∀ j, w6.frozen? ⟨N, j, none⟩ = false := fun j => HX.out.r0.thawed j
        have f1 : ∀ j, w6.frozen? ⟨N + 1, j, none⟩ = false := fun j => HX.out.r1.thawed j
        go_wp2_with fail
        obtain ⟨hr, hb⟩ := (HX.out.set 3 (.int .i64 zz)).fin (.bool mB) (.string sA) (.string ⟨#[]⟩) (.int .i64 zz)
        refine bodyPost_ret (results_two rfl _ _ N 56 _ _ _ rfl rfl hr Tryz.underlying56 rfl size56) rfl ⟨by rw [HNN.out]; exact hb, _, _, _, _, by rw [HO.out, HOK.out.1]; rfl, fun h => ⟨HMB.out.symm, HAE.out.symm, HBE.out.symm, ?_⟩⟩
        rw [HO.out, HOK.out.1] at h
        rw [← HOK.out.2, h, HZ.out]
        rfl
    · rw [hE] at hO2 HZ
      rw [if_pos rfl] at HZ
      have HO : RowKit.Hid (spOk l = true) := Lib.hid (by rw [hO2]; rfl)
      have hL2 : (tx (sp4 l)).toList = [] := by rw [tx_toList]; simpa using hE
      clear hO2 hE
      generalize tx (sp4 l) = s4 at hL2 HF1 HC2
      rcases hm48 with hm | ⟨hm, hm2⟩
      all_goals
        go_enter Tryz.func38, Tryz.ntmps38
        go_wp2_with (first | (go_at_call 50; refine (HC1.out _).mono ?_; rintro e w1 ⟨rfl, rfl⟩))
        refine (HF1.out _).mono ?_
        rintro e w3 ⟨rfl, k, rfl⟩
        have HX := Lib.hid (tw_new w #[.bool mB, .string ⟨#[]⟩, .string ⟨#[]⟩, .int .i64 0] k)
        clear HC1 HF1
        generalize ((w.alloc (.cells #[.bool false, .string ⟨#[]⟩, .string ⟨#[]⟩, .int .i64 0] 56)).alloc (.cells #[.bool mB, .string ⟨#[]⟩, .string ⟨#[]⟩, .int .i64 0] 56)).drewN k = W at HX ⊢
        generalize hN : w.heap.size = N at HX ⊢
        have HNN := Lib.hid hN
        have n0 : W.cell? ⟨N, 0, none⟩ = some (.bool false) := HX.out.r0.cell 0
        have n1 : W.cell? ⟨N, 1, none⟩ = some (.string ⟨#[]⟩) := HX.out.r0.cell 1
        have n2 : W.cell? ⟨N, 2, none⟩ = some (.string ⟨#[]⟩) := HX.out.r0.cell 2
        have n3 : W.cell? ⟨N, 3, none⟩ = some (.int .i64 0) := HX.out.r0.cell 3
        have q0 : W.cell? ⟨N + 1, 0, none⟩ = some (.bool mB) := HX.out.r1.cell 0
        have q1 : W.cell? ⟨N + 1, 1, none⟩ = some (.string ⟨#[]⟩) := HX.out.r1.cell 1
        have q2 : W.cell? ⟨N + 1, 2, none⟩ = some (.string ⟨#[]⟩) := HX.out.r1.cell 2
        have q3 : W.cell? ⟨N + 1, 3, none⟩ = some (.int .i64 0) := HX.out.r1.cell 3
        have f0 : ∀ j, W.frozen? ⟨N, j, none⟩ = false := fun j => HX.out.r0.thawed j
        have f1 : ∀ j, W.frozen? ⟨N + 1, j, none⟩ = false := fun j => HX.out.r1.thawed j
        clear hN
        go_wp2_with (first | (go_at_call 50; refine (HC2.out _).mono ?_; rintro e w5 ⟨rfl, rfl⟩))
        obtain ⟨hr, hb⟩ := (HX.out.set 1 (.string sA)).fin (.bool mB) (.string sA) (.string ⟨#[]⟩) (.int .i64 0)
        refine bodyPost_ret (results_two rfl _ _ N 56 _ _ _ rfl rfl hr Tryz.underlying56 rfl size56) rfl ⟨by rw [HNN.out]; exact hb, _, _, _, _, by rw [HO.out]; rfl, fun _ => ⟨HMB.out.symm, HAE.out.symm, ?_, ?_⟩⟩
        · exact HBE.out.symm
        · exact HZ.out.symm
  · rw [hD] at hO HC2 HB H4
    rw [if_pos rfl] at HB H4
    have hO2 : spOk l = (!(spB l).isEmpty && ((sp4 l).isEmpty || powOk (sp4 l))) := by rw [hO]; rfl
    rw [← H4.out, ← HB.out] at HF2
    clear hO hD HB H4
    generalize tx (sp2 l) = s2 at HF1 HC2
    generalize tx (sp3 l) = s3 at HC2 HF2
    cases hBe : (spB l).isEmpty
    · rw [hBe] at hO2
      have hB1 : ¬ (tx (spB l)).toList = [] := by rw [tx_toList]; intro e; rw [e] at hBe; cases hBe
      have hB2 : (tx (spB l)).toList.isEmpty = false := by rw [tx_toList]; exact hBe
      obtain ⟨sB, hsB⟩ : ∃ sB, tx (spB l) = sB := ⟨_, rfl⟩
      rw [hsB] at hB1 hB2 HF2
      have HBE := Lib.hid hsB
      clear hsB
      cases hE : (sp4 l).isEmpty
      · rw [hE] at hO2 HZ
        rw [if_neg (by decide)] at HZ
        obtain ⟨c, T, hct⟩ : ∃ c T, sp4 l = c :: T := by
          cases h : sp4 l with
          | nil => rw [h] at hE; cases hE
          | cons c T => exact ⟨c, T, rfl⟩
        have HP := Lib.hid (fun wx => power_any c T wx (by have := HL4.out; rw [hct] at this; simp at this; omega))
        have hL1 : (tx (sp4 l)).toList.isEmpty = false := by rw [tx_toList]; exact hE
        have hL2 : ¬ (tx (sp4 l)).toList = [] := by rw [tx_toList, hct]; intro e; cases e
        rw [← hct] at HP
        have HO : RowKit.Hid (spOk l = powOk (sp4 l)) := Lib.hid (by rw [hO2]; rfl)
        clear hO2 hE hct hBe
        generalize sp4 l = L at *
        generalize tx L = s4 at hL1 hL2 HP HF2
        rcases hm48 with hm | ⟨hm, hm2⟩
        all_goals
          go_enter Tryz.func38, Tryz.ntmps38
          go_wp2_with (first | (go_at_call 50; refine (HC1.out _).mono ?_; rintro e w1 ⟨rfl, rfl⟩))
          refine (HF1.out _).mono ?_
          rintro e w3 ⟨rfl, k, rfl⟩
          have HX := Lib.hid (tw_new w #[.bool mB, .string ⟨#[]⟩, .string ⟨#[]⟩, .int .i64 0] k)
          clear HC1 HF1
          generalize ((w.alloc (.cells #[.bool false, .string ⟨#[]⟩, .string ⟨#[]⟩, .int .i64 0] 56)).alloc (.cells #[.bool mB, .string ⟨#[]⟩, .string ⟨#[]⟩, .int .i64 0] 56)).drewN k = W at HX ⊢
          generalize hN : w.heap.size = N at HX ⊢
          have HNN := Lib.hid hN
          have n0 : W.cell? ⟨N, 0, none⟩ = some (.bool false) := HX.out.r0.cell 0
          have n1 : W.cell? ⟨N, 1, none⟩ = some (.string ⟨#[]⟩) := HX.out.r0.cell 1
          have n2 : W.cell? ⟨N, 2, none⟩ = some (.string ⟨#[]⟩) := HX.out.r0.cell 2
          have n3 : W.cell? ⟨N, 3, none⟩ = some (.int .i64 0) := HX.out.r0.cell 3
          have q0 : W.cell? ⟨N + 1, 0, none⟩ = some (.bool mB) := HX.out.r1.cell 0
          have q1 : W.cell? ⟨N + 1, 1, none⟩ = some (.string ⟨#[]⟩) := HX.out.r1.cell 1
          have q2 : W.cell? ⟨N + 1, 2, none⟩ = some (.string ⟨#[]⟩) := HX.out.r1.cell 2
          have q3 : W.cell? ⟨N + 1, 3, none⟩ = some (.int .i64 0) := HX.out.r1.cell 3
          have f0 : ∀ j, W.frozen? ⟨N, j, none⟩ = false := fun j => HX.out.r0.thawed j
          have f1 : ∀ j, W.frozen? ⟨N + 1, j, none⟩ = false := fun j => HX.out.r1.thawed j
          clear hN
          go_wp2_with (first | (go_at_call 50; refine (HC2.out _).mono ?_; rintro e w5 ⟨rfl, rfl⟩))
          refine (HF2.out _).mono ?_
          rintro e w7 ⟨rfl, k2, rfl⟩
          have HY := Lib.hid ((HX.out.set 1 (.string sA)).grown (grown_drewN _ k2))
          clear HX n0 n1 n2 n3 q0 q1 q2 q3 f0 f1 HF2
          have HX := HY
          clear HY
          generalize (W.setCell ⟨N + 1, 1, none⟩ (.string sA)).drewN k2 = W2 at HX ⊢
          have n0 : W2.cell? ⟨N, 0, none⟩ = some (.bool false) := HX.out.r0.cell 0
          have n1 : W2.cell? ⟨N, 1, none⟩ = some (.string ⟨#[]⟩) := HX.out.r0.cell 1
          have n2 : W2.cell? ⟨N, 2, none⟩ = some (.string ⟨#[]⟩) := HX.out.r0.cell 2
          have n3 : W2.cell? ⟨N, 3, none⟩ = some (.int .i64 0) := HX.out.r0.cell 3
          have q0 : W2.cell? ⟨N + 1, 0, none⟩ = some (.bool mB) := HX.out.r1.cell 0
          have q1 : W2.cell? ⟨N + 1, 1, none⟩ = some (.string sA) := HX.out.r1.cell 1
          have q2 : W2.cell? ⟨N + 1, 2, none⟩ = some (.string ⟨#[]⟩) := HX.out.r1.cell 2
          have q3 : W2.cell? ⟨N + 1, 3, none⟩ = some (.int .i64 0) := HX.out.r1.cell 3
          have f0 : ∀ j, W2.frozen? ⟨N, j, none⟩ = false := fun j => HX.out.r0.thawed j
          have f1 : ∀ j, W2.frozen? ⟨N + 1, j, none⟩ = false := fun j => HX.out.r1.thawed j
          go_wp2_with fail
          refine (HP.out _).mono ?_
          rintro e w6 ⟨rfl, hb6⟩
          have HY := Lib.hid ((HX.out.set 2 (.string sB)).below hb6)
          obtain ⟨ok, hok⟩ : ∃ ok, powOk L = ok := ⟨_, rfl⟩
          rw [hok]
          obtain ⟨zz, hzz⟩ : ∃ zz, (if ok then powZ L.tail else 0) = zz := ⟨_, rfl⟩
          rw [hzz]
          have HOK := Lib.hid (And.intro hok hzz)
          clear hok hzz hb6 HX n0 n1 n2 n3 q0 q1 q2 q3 f0 f1
          have HX := HY
          clear HY
          have n0 : w6.cell? ⟨N, 0, none⟩ = some (.bool false) := HX.out.r0.cell 0
          have n1 : w6.cell? ⟨N, 1, none⟩ = some (.string ⟨#[]⟩) := HX.out.r0.cell 1
          have n2 : w6.cell? ⟨N, 2, none⟩ = some (.string ⟨#[]⟩) := HX.out.r0.cell 2
          have n3 : w6.cell? ⟨N, 3, none⟩ = some (.int .i64 0) := HX.out.r0.cell 3
          have q0 : w6.cell? ⟨N + 1, 0, none⟩ = some (.bool mB) := HX.out.r1.cell 0
          have q1 : w6.cell? ⟨N + 1, 1, none⟩ = some (.string sA) := HX.out.r1.cell 1
          have q2 : w6.cell? ⟨N + 1, 2, none⟩ = some (.string sB) := HX.out.r1.cell 2
          have q3 : w6.cell? ⟨N + 1, 3, none⟩ = some (.int .i64 0) := HX.out.r1.cell 3
          have f0 : ∀ j, w6.frozen? ⟨N, j, none⟩ = false := fun j => HX.out.r0.thawed j
          have f1 : ∀ j, w6.frozen? ⟨N + 1, j, none⟩ = false := fun j => HX.out.r1.thawed j
          go_wp2_with fail
          obtain ⟨hr, hb⟩ := (HX.out.set 3 (.int .i64 zz)).fin (.bool mB) (.string sA) (.string sB) (.int .i64 zz)
          refine bodyPost_ret (results_two rfl _ _ N 56 _ _ _ rfl rfl hr Tryz.underlying56 rfl size56) rfl ⟨by rw [HNN.out]; exact hb, _, _, _, _, by rw [HO.out, HOK.out.1]; rfl, fun h => ⟨HMB.out.symm, HAE.out.symm, HBE.out.symm, ?_⟩⟩
          rw [HO.out, HOK.out.1] at h
          rw [← HOK.out.2, h, HZ.out]
          rfl
      · rw [hE] at hO2 HZ
        rw [if_pos rfl] at HZ
        have HO : RowKit.Hid (spOk l = true) := Lib.hid (by rw [hO2]; rfl)
        have hL2 : (tx (sp4 l)).toList = [] := by rw [tx_toList]; simpa using hE
        clear hO2 hE hBe
        generalize tx (sp4 l) = s4 at hL2 HF2
        rcases hm48 with hm | ⟨hm, hm2⟩
        all_goals
          go_enter Tryz.func38, Tryz.ntmps38
          go_wp2_with (first | (go_at_call 50; refine (HC1.out _).mono ?_; rintro e w1 ⟨rfl, rfl⟩))
          refine (HF1.out _).mono ?_
          rintro e w3 ⟨rfl, k, rfl⟩
          have HX := Lib.hid (tw_new w #[.bool mB, .string ⟨#[]⟩, .string ⟨#[]⟩, .int .i64 0] k)
          clear HC1 HF1
          generalize ((w.alloc (.cells #[.bool false, .string ⟨#[]⟩, .string ⟨#[]⟩, .int .i64 0] 56)).alloc (.cells #[.bool mB, .string ⟨#[]⟩, .string ⟨#[]⟩, .int .i64 0] 56)).drewN k = W at HX ⊢
          generalize hN : w.heap.size = N at HX ⊢
          have HNN := Lib.hid hN
          have n0 : W.cell? ⟨N, 0, none⟩ = some (.bool false) := HX.out.r0.cell 0
          have n1 : W.cell? ⟨N, 1, none⟩ = some (.string ⟨#[]⟩) := HX.out.r0.cell 1
          have n2 : W.cell? ⟨N, 2, none⟩ = some (.string ⟨#[]⟩) := HX.out.r0.cell 2
          have n3 : W.cell? ⟨N, 3, none⟩ = some (.int .i64 0) := HX.out.r0.cell 3
          have q0 : W.cell? ⟨N + 1, 0, none⟩ = some (.bool mB) := HX.out.r1.cell 0
          have q1 : W.cell? ⟨N + 1, 1, none⟩ = some (.string ⟨#[]⟩) := HX.out.r1.cell 1
          have q2 : W.cell? ⟨N + 1, 2, none⟩ = some (.string ⟨#[]⟩) := HX.out.r1.cell 2
          have q3 : W.cell? ⟨N + 1, 3, none⟩ = some (.int .i64 0) := HX.out.r1.cell 3
          have f0 : ∀ j, W.frozen? ⟨N, j, none⟩ = false := fun j => HX.out.r0.thawed j
          have f1 : ∀ j, W.frozen? ⟨N + 1, j, none⟩ = false := fun j => HX.out.r1.thawed j
          clear hN
          go_wp2_with (first | (go_at_call 50; refine (HC2.out _).mono ?_; rintro e w5 ⟨rfl, rfl⟩))
          refine (HF2.out _).mono ?_
          rintro e w7 ⟨rfl, k2, rfl⟩
          have HY := Lib.hid ((HX.out.set 1 (.string sA)).grown (grown_drewN _ k2))
          clear HX n0 n1 n2 n3 q0 q1 q2 q3 f0 f1 HF2
          have HX := HY
          clear HY
          generalize (W.setCell ⟨N + 1, 1, none⟩ (.string sA)).drewN k2 = W2 at HX ⊢
          have n0 : W2.cell? ⟨N, 0, none⟩ = some (.bool false) := HX.out.r0.cell 0
          have n1 : W2.cell? ⟨N, 1, none⟩ = some (.string ⟨#[]⟩) := HX.out.r0.cell 1
          have n2 : W2.cell? ⟨N, 2, none⟩ = some (.string ⟨#[]⟩) := HX.out.r0.cell 2
          have n3 : W2.cell? ⟨N, 3, none⟩ = some (.int .i64 0) := HX.out.r0.cell 3
          have q0 : W2.cell? ⟨N + 1, 0, none⟩ = some (.bool mB) := HX.out.r1.cell 0
          have q1 : W2.cell? ⟨N + 1, 1, none⟩ = some (.string sA) := HX.out.r1.cell 1
          have q2 : W2.cell? ⟨N + 1, 2, none⟩ = some (.string ⟨#[]⟩) := HX.out.r1.cell 2
          have q3 : W2.cell? ⟨N + 1, 3, none⟩ = some (.int .i64 0) := HX.out.r1.cell 3
          have f0 : ∀ j, W2.frozen? ⟨N, j, none⟩ = false := fun j => HX.out.r0.thawed j
          have f1 : ∀ j, W2.frozen? ⟨N + 1, j, none⟩ = false := fun j => HX.out.r1.thawed j
          go_wp2_with fail
          obtain ⟨hr, hb⟩ := (HX.out.set 2 (.string sB)).fin (.bool mB) (.string sA) (.string sB) (.int .i64 0)
          refine bodyPost_ret (results_two rfl _ _ N 56 _ _ _ rfl rfl hr Tryz.underlying56 rfl size56) rfl ⟨by rw [HNN.out]; exact hb, _, _, _, _, by rw [HO.out]; rfl, fun _ => ⟨HMB.out.symm, HAE.out.symm, ?_, ?_⟩⟩
          · exact HBE.out.symm
          · exact HZ.out.symm
    · rw [hBe] at hO2
      have HO : RowKit.Hid (spOk l = false) := Lib.hid (by rw [hO2]; rfl)
      have hB1 : (tx (spB l)).toList = [] := by rw [tx_toList]; simpa using hBe
      clear hO2 hBe
      generalize tx (spB l) = sB at hB1 HF2
      generalize tx (sp4 l) = s4 at HF2
      rcases hm48 with hm | ⟨hm, hm2⟩
      all_goals
        go_enter Tryz.func38, Tryz.ntmps38
        go_wp2_with (first | (go_at_call 50; refine (HC1.out _).mono ?_; rintro e w1 ⟨rfl, rfl⟩))
        refine (HF1.out _).mono ?_
        rintro e w3 ⟨rfl, k, rfl⟩
        have HX := Lib.hid (tw_new w #[.bool mB, .string ⟨#[]⟩, .string ⟨#[]⟩, .int .i64 0] k)
        clear HC1 HF1
        generalize ((w.alloc (.cells #[.bool false, .string ⟨#[]⟩, .string ⟨#[]⟩, .int .i64 0] 56)).alloc (.cells #[.bool mB, .string ⟨#[]⟩, .string ⟨#[]⟩, .int .i64 0] 56)).drewN k = W at HX ⊢
        generalize hN : w.heap.size = N at HX ⊢
        have HNN := Lib.hid hN
        have n0 : W.cell? ⟨N, 0, none⟩ = some (.bool false) := HX.out.r0.cell 0
        have n1 : W.cell? ⟨N, 1, none⟩ = some (.string ⟨#[]⟩) := HX.out.r0.cell 1
        have n2 : W.cell? ⟨N, 2, none⟩ = some (.string ⟨#[]⟩) := HX.out.r0.cell 2
        have n3 : W.cell? ⟨N, 3, none⟩ = some (.int .i64 0) := HX.out.r0.cell 3
        have q0 : W.cell? ⟨N + 1, 0, none⟩ = some (.bool mB) := HX.out.r1.cell 0
        have q1 : W.cell? ⟨N + 1, 1, none⟩ = some (.string ⟨#[]⟩) := HX.out.r1.cell 1
        have q2 : W.cell? ⟨N + 1, 2, none⟩ = some (.string ⟨#[]⟩) := HX.out.r1.cell 2
        have q3 : W.cell? ⟨N + 1, 3, none⟩ = some (.int .i64 0) := HX.out.r1.cell 3
        have f0 : ∀ j, W.frozen? ⟨N, j, none⟩ = false := fun j => HX.out.r0.thawed j
        have f1 : ∀ j, W.frozen? ⟨N + 1, j, none⟩ = false := fun j => HX.out.r1.thawed j
        clear hN
        go_wp2_with (first | (go_at_call 50; refine (HC2.out _).mono ?_; rintro e w5 ⟨rfl, rfl⟩))
        refine (HF2.out _).mono ?_
        rintro e w7 ⟨rfl, k2, rfl⟩
        have HY := Lib.hid ((HX.out.set 1 (.string sA)).grown (grown_drewN _ k2))
        clear HX n0 n1 n2 n3 q0 q1 q2 q3 f0 f1 HF2
        have HX := HY
        clear HY
        generalize (W.setCell ⟨N + 1, 1, none⟩ (.string sA)).drewN k2 = W2 at HX ⊢
        have n0 : W2.cell? ⟨N, 0, none⟩ = some (.bool false) := HX.out.r0.cell 0
        have n1 : W2.cell? ⟨N, 1, none⟩ = some (.string ⟨#[]⟩) := HX.out.r0.cell 1
        have n2 : W2.cell? ⟨N, 2, none⟩ = some (.string ⟨#[]⟩) := HX.out.r0.cell 2
        have n3 : W2.cell? ⟨N, 3, none⟩ = some (.int .i64 0) := HX.out.r0.cell 3
        have q0 : W2.cell? ⟨N + 1, 0, none⟩ = some (.bool mB) := HX.out.r1.cell 0
        have q1 : W2.cell? ⟨N + 1, 1, none⟩ = some (.string sA) := HX.out.r1.cell 1
        have q2 : W2.cell? ⟨N + 1, 2, none⟩ = some (.string ⟨#[]⟩) := HX.out.r1.cell 2
        have q3 : W2.cell? ⟨N + 1, 3, none⟩ = some (.int .i64 0) := HX.out.r1.cell 3
        have f0 : ∀ j, W2.frozen? ⟨N, j, none⟩ = false := fun j => HX.out.r0.thawed j
        have f1 : ∀ j, W2.frozen? ⟨N + 1, j, none⟩ = false := fun j => HX.out.r1.thawed j
        go_wp2_with fail
        obtain ⟨hr, hb⟩ := (HX.out.set 2 (.string sB)).fin (.bool false) (.string ⟨#[]⟩) (.string ⟨#[]⟩) (.int .i64 0)
        exact bodyPost_ret (results_two rfl _ _ N 56 _ _ _ rfl rfl hr Tryz.underlying56 rfl size56) rfl ⟨by rw [HNN.out]; exact hb, _, _, _, _, by rw [HO.out]; rfl, fun h => by rw [HO.out] at h; cases h⟩
/-- split, whatever comes. -/
theorem split_any (l : List UInt8) (w : World) (hl : l.length ≤ 100000) : Calls Tryz.prog 38 #[.string (tx l)] w (SpM w l) := by
  cases hA : spA l with
  | nil => exact split_1 l w hl hA
  | cons a A =>
    cases hz : leadOk (spA l)
    · exact split_2 l w hl a A hA hz
    · exact split_3 l w hl a A hA hz
end Go.Proofs.YtfebfkbdbncihaaGreatDoor
