
/- Contract of codeOf. -/

/- Contract of fixedCodes. -/

/- Contract of the machine's room; what a step comes to, one way at a time. -/
import Derived.Test.YtpnnlhegncbfaaaGreatDoorGroupI
namespace Go.Proofs.YtpnnlhegncbfaaaGreatDoor
set_option maxRecDepth 20000
open Go.RowKit

variable {g r H : Nat} {A : Option Addr} {n c : Nat} {l : List UInt8} {lim : Nat} {v : Value} {s : Sx}
def ints64I (ls : List Nat) : List Int := ls.map Int.ofNat
theorem nats_intsI (ls : List Nat) : nats (ints64I ls) = ls := by
  unfold nats ints64I
  rw [List.map_map]
  exact (List.map_congr_left (g := id) (fun x _ => rfl)).trans (List.map_id ls)
theorem rng_ints {ls : List Nat} (h : Low ls) : rng (ints64I ls) := fun x hx => by
  obtain ⟨y, hy, rfl⟩ := List.mem_map.1 hx
  have := h y hy
  exact ⟨Int.natCast_nonneg y, by show (y : Int) ≤ 15; omega⟩
theorem ints_lengthI (ls : List Nat) : (ints64I ls).length = ls.length := by simp [ints64I]
/-- What codeOf comes to. -/
def CodeM (w : World) (ls : List Nat) (lone : Bool) (e : Ending) (w' : World) : Prop :=
  Below w.heap.size w w' ∧ ((right ls lone = true ∧ ∃ a, e = .returned (.pointer (some ⟨a, 0, none⟩)) ∧ HL w' w.heap.size w'.heap.size a ls) ∨
    (right ls lone = false ∧ ∃ b, e = .panicked (flt ⟨b, 0, none⟩) ∧ w.heap.size ≤ b ∧ w'.cell? ⟨b, 0, none⟩ = some (.int .i64 2)))

set_option maxHeartbeats 1000000 in
theorem code_anyI (A : Option Addr) (n c : Nat) (ls : List Nat) (lone : Bool) (w : World) (hr : Rd w w.heap.size A n (is (ints64I ls))) (hA : A = none → c = 0) (hn : ls.length ≤ 320) (hlow : Low ls) :
    Calls Tryz.prog 122 #[.slice A n c, .bool lone] w (CodeM w ls lone) := by
  have hn2 : n = ls.length := by have := hr.1; rw [is_length, ints_lengthI] at this; exact this.symm
  have HC := Lib.hid (new_full A n c (ints64I ls) lone w hr hA (by omega))
  have HR := Lib.hid (newE_right (L := ints64I ls) lone (by rw [ints_lengthI]; exact hn) (rng_ints hlow))
  rw [nats_intsI] at HR
  clear hr hA hn2
  go_enter Tryz.func122, Tryz.ntmps122
  go_wp2_with fail
  refine HC.out.mono ?_
  rintro e w1 ⟨⟨hb, h1, h2⟩, h3⟩
  by_cases h : newE (ints64I ls) lone = 0
  · obtain ⟨a, rfl, _⟩ := h2 h
    have HF := Lib.hid (h3 a rfl h)
    rw [nats_intsI] at HF
    have HB := Lib.hid hb
    have HT := Lib.hid (HR.out.1 h)
    clear h1 h2 h3 hb h HC HR
    go_wp2_with fail
    refine (must_ok w1 _ rfl).mono ?_
    rintro e w2 ⟨rfl, rfl⟩
    go_wp2_with fail
    go_ret
    exact ⟨HB.out, .inl ⟨HT.out, a, rfl, HF.out⟩⟩
  · obtain rfl := h1 h
    have HT : RowKit.Hid (right ls lone = false) := Lib.hid (by
      cases hh : right ls lone with
      | false => rfl
      | true => exact absurd (HR.out.2 hh) h)
    obtain ⟨k, hk⟩ : ∃ k, newE (ints64I ls) lone = k + 1 := ⟨newE (ints64I ls) lone - 1, by omega⟩
    rw [hk, show errV (k + 1) = .iface 39 (.int .i64 ((k + 1 : Nat) : Int)) from rfl]
    generalize ((k + 1 : Nat) : Int) = z
    have HB := Lib.hid hb
    clear h1 h2 h3 hb h hk HC HR
    go_wp2_with fail
    refine (must_no w1 _ rfl).mono ?_
    rintro e w2 ⟨rfl, rfl⟩
    exact ⟨rfl, HB.out.alloc HB.out.size _, .inr ⟨HT.out, w1.heap.size, rfl, HB.out.size, cells_new w1 #[.int .i64 2, .string ⟨#[]⟩] 80 0 _ rfl⟩⟩
end Go.Proofs.YtpnnlhegncbfaaaGreatDoor
namespace Go.Proofs.YtpnnlhegncbfaaaGreatDoor
set_option maxRecDepth 20000
open Go.RowKit

variable {g r H : Nat} {A : Option Addr} {n c : Nat} {l : List UInt8} {lim : Nat} {v : Value} {s : Sx}
theorem is_fixAI : is (ints64I fixA) = (ia fixL 288).toList := by kernel_rfl
theorem is_fixBI : (ia (fun _ => 5) 30).toList = is (List.replicate 30 5) := by kernel_rfl
theorem fixB_intsI : ints64I fixB = List.replicate 30 5 ++ [5, 5] := by kernel_rfl
theorem fixB_right : right fixB false = true := by decide +kernel
theorem fix_lowI : Low fixA ∧ Low fixB := by
  constructor
  · intro x hx; revert x; decide +kernel
  · intro x hx; revert x; decide +kernel
theorem fix_lens : fixA.length = 288 ∧ fixB.length = 32 := by decide +kernel
/-- A code that was made just now is none of the machine's other blocks. -/
theorem MS.cdh {w w' : World} {H2 : Nat} (h : MS w g r H A n c l lim v s) {a : Nat} {ls : List Nat} (hl : HL w' w.heap.size H2 a ls) : CDH w' H2 g v a ls :=
  ⟨w.heap.size, H2, hl, h.lt, Nat.le_refl _, fun _ hk => .inl (h.ownLt hk).2⟩
theorem MS.fixed {w : World} (h : MS w g r H A n c l lim v s) {a b : Nat} (ha : CDH w w.heap.size g v a fixA) (hb : CDH w w.heap.size g v b fixB) :
    MS ((w.setCell ⟨g, 4, none⟩ (.pointer (some ⟨a, 0, none⟩))).setCell ⟨g, 5, none⟩ (.pointer (some ⟨b, 0, none⟩))) g r w.heap.size A n c l lim v s ∧
    Moves w ((w.setCell ⟨g, 4, none⟩ (.pointer (some ⟨a, 0, none⟩))).setCell ⟨g, 5, none⟩ (.pointer (some ⟨b, 0, none⟩))) g r v v ∧
    CDH ((w.setCell ⟨g, 4, none⟩ (.pointer (some ⟨a, 0, none⟩))).setCell ⟨g, 5, none⟩ (.pointer (some ⟨b, 0, none⟩))) w.heap.size g v a fixA ∧
    CDH ((w.setCell ⟨g, 4, none⟩ (.pointer (some ⟨a, 0, none⟩))).setCell ⟨g, 5, none⟩ (.pointer (some ⟨b, 0, none⟩))) w.heap.size g v b fixB ∧
    w.grownBy ((w.setCell ⟨g, 4, none⟩ (.pointer (some ⟨a, 0, none⟩))).setCell ⟨g, 5, none⟩ (.pointer (some ⟨b, 0, none⟩))) (some g) := by
  obtain ⟨fl, fd, h1, h2⟩ := h.fx
  have hg : w.grownBy ((w.setCell ⟨g, 4, none⟩ (.pointer (some ⟨a, 0, none⟩))).setCell ⟨g, 5, none⟩ (.pointer (some ⟨b, 0, none⟩))) (some g) := (grown_setCell w g 4 _).trans (grown_setCell _ g 5 _)
  have hm : Moves w _ g r v v := Moves.grown v hg (.inr (.inl rfl))
  have hrg := h.rg
  have hb' : Below r w _ := ⟨hg.os, hg.tape, hg.output, hg.size, fun k hk => hg.block k (Nat.lt_trans hk h.rrow.lt) (fun e => by injection e with e; omega)⟩
  have ca := ha.moves (Nat.le_refl _) hm h.rg
  have cb := hb.moves (Nat.le_refl _) hm h.rg
  exact ⟨⟨⟨_, _, (h1.set 4 _).set 5 _, .inr ⟨a, b, rfl, rfl, ca, cb⟩⟩, h.rrow.grown hg (fun e => by injection e with e; omega), h.rd.below hb', h.cap, h.form, h.lc, h.le,
    World.ownsRow.kept h.own hg (.inr (Ne.symm (h.ne (Nat.le_refl _)))), h.rg, h.pos, h.tab.block (hb'.block 2 h.pos), h.sp, h.ol, h.lm, h.nn, hg.size, h.lt⟩, hm, ca, cb, hg⟩
/-- Another block behind the machine has changed, and the fixed codes stand. -/
theorem MS.other {w w' : World} {b : Nat} (h : MS w g r H A n c l lim v s) (hg : w.grownBy w' (some b)) (h1 : g < b) (h2 : some b ≠ v.ownBlock) (hf : ∀ fl fd, Row w g (mcells r v lim s.steps fl fd) 137 → FXI w H g v fl fd → FXI w' H g v fl fd) : MS w' g r H A n c l lim v s := by
  obtain ⟨fl, fd, h3, h4⟩ := h.fx
  have hrg := h.rg
  have hne : ∀ k, k ≤ g → some k ≠ some b := fun k hk e => by injection e with e; omega
  have hb : Below r w w' := ⟨hg.os, hg.tape, hg.output, hg.size, fun k hk => hg.block k (Nat.lt_trans hk h.rrow.lt) (hne k (by omega))⟩
  exact ⟨⟨fl, fd, h3.grown hg (hne g (Nat.le_refl _)), hf fl fd h3 h4⟩, h.rrow.grown hg (hne r (by omega)), h.rd.below hb, h.cap, h.form, h.lc, h.le,
    World.ownsRow.kept h.own hg (.inr (Ne.symm h2)), h.rg, h.pos, h.tab.block (hb.block 2 h.pos), h.sp, h.ol, h.lm, h.nn, Nat.le_trans h.hs hg.size, h.gh⟩
theorem CDH.keep {w w' : World} {H g b : Nat} {v : Value} {a : Nat} {ls : List Nat} {lo hi : Nat} (h : HL w lo hi a ls) (hg : w.grownBy w' (some b)) (h1 : g < lo) (h2 : hi ≤ H) (hH : H ≤ w.heap.size) (hb : b < lo) (hv : ∀ k, v.ownBlock = some k → k < lo) : CDH w' H g v a ls :=
  ⟨lo, hi, h.keep fun k k1 k2 => hg.block k (by omega) (fun e => by injection e with e; omega), h1, h2, fun k hk => .inl (hv k hk)⟩
theorem size45I : (Tryz.prog.info? 135).map (·.size) = some 2 := by kernel_rfl
/-- What fixedCodes leaves. -/
def FixCI (w : World) (g r : Nat) (A : Option Addr) (n c : Nat) (l : List UInt8) (lim : Nat) (v : Value) (s : Sx) (e : Ending) (w' : World) : Prop :=
  ∃ a b, e = .returned (.agg #[.pointer (some ⟨a, 0, none⟩), .pointer (some ⟨b, 0, none⟩)]) ∧ MS w' g r w'.heap.size A n c l lim v s ∧ Moves w w' g r v v ∧ CDH w' w'.heap.size g v a fixA ∧ CDH w' w'.heap.size g v b fixB

set_option maxHeartbeats 1000000 in
set_option maxRecDepth 20000 in
theorem fixedc_any (w : World) (hm : MS w g r H A n c l lim v s) : Calls Tryz.prog 110 #[.pointer (some ⟨g, 0, none⟩)] w (FixCI w g r A n c l lim v s) := by
  obtain ⟨fl, fd, hrow, hfx⟩ := hm.fx
  have hlt := hm.lt
  have HM := Lib.hid (hm.still (World.grownBy_alloc w (.cells #[.pointer none, .pointer none] 135) none))
  have HG : RowKit.Hid (Moves w (w.alloc (.cells #[.pointer none, .pointer none] 135)) g r v v) := Lib.hid (Moves.grown v (World.grownBy_alloc w _ none) (.inl rfl))
  have HR : RowKit.Hid (Row (w.alloc (.cells #[.pointer none, .pointer none] 135)) w.heap.size #[.pointer none, .pointer none] 135) := Lib.hid (Row.new w _ _)
  have c4 : w.cell? ⟨g, 4, none⟩ = some fl := hrow.cell 4
  have c5 : w.cell? ⟨g, 5, none⟩ = some fd := hrow.cell 5
  have HN : RowKit.Hid (w.heap.size < (w.alloc (.cells #[.pointer none, .pointer none] 135)).heap.size) := Lib.hid (by simp)
  rcases hfx with ⟨rfl, rfl⟩ | ⟨a, b, rfl, rfl, ha, hb⟩
  · have HRG0 : RowKit.Hid (g < w.heap.size ∧ some w.heap.size ≠ v.ownBlock) := Lib.hid ⟨hlt, fun e => by have := (hm.ownLt e.symm).2; omega⟩
    clear hm hrow
    go_enter Tryz.func110, Tryz.ntmps110
    go_wp2_with fail
    generalize w.alloc (.cells #[.pointer none, .pointer none] 135) = w1 at HM HG HR HN ⊢
    have hgr : g ≠ w.heap.size := by omega
    have HGR := Lib.hid hgr
    have HRG : RowKit.Hid (g < w.heap.size ∧ some w.heap.size ≠ v.ownBlock) := HRG0
    generalize hrb : w.heap.size = rb at HR HN HGR HRG ⊢
    have HRW : RowKit.Hid (w.heap.size ≤ rb) := Lib.hid (Nat.le_of_eq hrb)
    clear hrb
    refine (fixed_any w1).mono ?_
    rintro e w2 ⟨p, q, rfl, hp, hq, hb2, hp2, hq2, hpq⟩
    have hm2 := HM.out.still (grown_of_below hb2)
    have HG2 := Lib.hid (HG.out.trans (Moves.grown v (grown_of_below hb2) (.inl rfl)))
    have HR2 := Lib.hid (HR.out.below hb2 HN.out)
    have HO2 := Lib.hid (hq.ownI (B := w1.heap.size) (n := 30) is_fixBI (by decide) (by decide) hq2)
    have HP2 := Lib.hid hp
    have HS2 := Lib.hid (And.intro hb2.size (And.intro hq2 hpq))
    have HM2 := Lib.hid hm2
    have HRB : RowKit.Hid (rb < w1.heap.size) := HN
    clear hp hq hb2 hp2 hq2 hpq hm2
    go_wp2_with (at_builtin; refine pushI w2 rfl (.tmp 15) (.tmp 16) rfl w1.heap.size _ (List.replicate 30 5) [5, 5] _ 2 rfl rfl HO2.out rfl rfl HS2.out.1 (by decide) ?_)
    intro v3 w3 ho3 hg3 hf3
    have hq3 : ∀ b, (Value.slice (some ⟨q, 0, none⟩) 30 30).ownBlock = some b → q = b := fun b hb => by injection hb
    have hr3 := HR2.out.grown hg3 (fun e => by have := hq3 _ e.symm; have := HS2.out.2.1; have := HRB.out; omega)
    have hp3 := HP2.out.grown hg3 (fun e => HS2.out.2.2 (hq3 _ e.symm).symm)
    have hH := HM.out.hs
    have hown := HM.out.own
    have hm3 := HM2.out.beyond hg3 (fun b hb => by
      have e := hq3 b hb
      have := HS2.out.2.1
      refine ⟨by omega, fun e2 => ?_⟩
      have := (HM.out.ownLt e2.symm).2
      omega)
    have hG3 := HG2.out.beyond hg3 (fun b hb => by have := hq3 b hb; have := HS2.out.2.1; have := HG.out.size; omega)
    obtain ⟨A3, c3, hv3⟩ := ho3.slice
    have hv3 : v3 = .slice A3 32 c3 := hv3
    subst hv3
    have HK3 : RowKit.Hid (A3 = none → c3 = 0) := Lib.hid ho3.capz
    have hd3 : Rd w3 w3.heap.size A3 32 (is (ints64I fixB)) := by rw [fixB_intsI]; exact ho3.rd.2
    have HD3 := Lib.hid hd3
    have HA3 : RowKit.Hid (Rd w3 w3.heap.size (some ⟨p, 0, none⟩) 288 (is (ints64I fixA))) := Lib.hid (by rw [is_fixAI]; exact hp3.rdI hp3.lt)
    have HM3 := Lib.hid hm3
    have HG3 := Lib.hid hG3
    have HR3 := Lib.hid hr3
    have HZ3 : RowKit.Hid (rb < w3.heap.size) := Lib.hid hr3.lt
    clear ho3 hg3 hf3 hq3 hr3 hp3 hH hown hm3 hG3 hd3 HM2 HG2 HR2 HO2 HP2 HS2 HM HG HR
    go_wp2_with fail
    refine (code_anyI (some ⟨p, 0, none⟩) 288 288 fixA false w3 HA3.out (by simp) (by rw [fix_lens.1]; decide) fix_lowI.1).mono ?_
    rintro e w4 ⟨hb4, ⟨_, a, rfl, hl4⟩ | ⟨hno, _⟩⟩
    rotate_left
    · rw [fix_right.1] at hno; cases hno
    have HM4 := Lib.hid (HM3.out.still (grown_of_below hb4))
    have HG4 := Lib.hid (HG3.out.trans (Moves.grown v (grown_of_below hb4) (.inl rfl)))
    have HR4 := Lib.hid (HR3.out.below hb4 HZ3.out)
    have HD4 := Lib.hid (HD3.out.next hb4)
    have HC4 := Lib.hid (HM3.out.cdh hl4)
    have HL4' := Lib.hid hl4
    have HLG : RowKit.Hid (g < w3.heap.size ∧ rb < w3.heap.size ∧ (∀ k, v.ownBlock = some k → k < w3.heap.size) ∧ w3.heap.size ≤ w4.heap.size) := Lib.hid ⟨HM3.out.lt, HZ3.out, fun k hk => (HM3.out.ownLt hk).2, hb4.size⟩
    clear hb4 hl4 HM3 HG3 HR3 HZ3 HD3 HA3
    go_wp2_with fail
    refine (code_anyI A3 32 c3 fixB false w4 HD4.out HK3.out (by rw [fix_lens.2]; decide) fix_lowI.2).mono ?_
    rintro e w5 ⟨hb5, ⟨_, b, rfl, hl5⟩ | ⟨hno, _⟩⟩
    rotate_left
    · rw [fixB_right] at hno; cases hno
    have hm5 := HM4.out.still (grown_of_below hb5)
    have hc5 := ((HC4.out.beyond (Nat.le_refl _) (grown_of_below hb5) (fun _ h => by cases h)).more hb5.size)
    obtain ⟨hm6, hg6, ca6, cb6, hgr6⟩ := hm5.fixed hc5 (HM4.out.cdh hl5)
    have hr5 := HR4.out.below hb5 HR4.out.lt
    have hr6 := hr5.grown hgr6 (fun e => by injection e with e; exact HGR.out e.symm)
    have HG6 := Lib.hid ((HG4.out.trans (Moves.grown v (grown_of_below hb5) (.inl rfl))).trans hg6)
    have HC6 := Lib.hid (And.intro ca6 cb6)
    have HR6 := Lib.hid hr6
    have HS6 := Lib.hid hgr6.size
    obtain ⟨fl5, fd5, hrow5, _⟩ := hm5.fx
    have c54 : w5.cell? ⟨g, 4, none⟩ = some fl5 := hrow5.cell 4
    have c55 : w5.cell? ⟨g, 5, none⟩ = some fd5 := hrow5.cell 5
    have f54 := hrow5.thawed 4
    have f55 := hrow5.thawed 5
    have r0 := hr5.cell 0
    have r1 := hr5.cell 1
    have f0 := hr5.thawed 0
    have f1 := hr5.thawed 1
    have HM6 := Lib.hid hm6
    have HW6 := Lib.hid ((hrow5.set 4 (.pointer (some ⟨a, 0, none⟩))).set 5 (.pointer (some ⟨b, 0, none⟩)))
    have HL4 := Lib.hid (HL4' |>.out.keep (w' := (w5.setCell ⟨g, 4, none⟩ (.pointer (some ⟨a, 0, none⟩))).setCell ⟨g, 5, none⟩ (.pointer (some ⟨b, 0, none⟩))) fun k k1 k2 => (hgr6.block k (by have := hb5.size; omega) (fun e => by injection e with e; have := HLG.out; omega)).trans (hb5.block k k2))
    have HL5 := Lib.hid (hl5.keep (w' := (w5.setCell ⟨g, 4, none⟩ (.pointer (some ⟨a, 0, none⟩))).setCell ⟨g, 5, none⟩ (.pointer (some ⟨b, 0, none⟩))) fun k k1 k2 => (hgr6.block k k2 (fun e => by injection e with e; have := HLG.out; omega)))
    have HLO : RowKit.Hid (g < w3.heap.size ∧ w4.heap.size ≤ w5.heap.size ∧ rb < w3.heap.size ∧ (∀ k, v.ownBlock = some k → k < w3.heap.size) ∧ g < w4.heap.size ∧ rb < w4.heap.size ∧ ∀ k, v.ownBlock = some k → k < w4.heap.size) := Lib.hid (by
      have h3 := HLG.out
      refine ⟨h3.1, hb5.size, h3.2.1, h3.2.2.1, Nat.lt_of_lt_of_le h3.1 h3.2.2.2, Nat.lt_of_lt_of_le h3.2.1 h3.2.2.2, fun k hk => Nat.lt_of_lt_of_le (h3.2.2.1 k hk) h3.2.2.2⟩)
    have hne := HGR.out
    have hne2 := Ne.symm hne
    clear hm5 hc5 hm6 hg6 ca6 cb6 hgr6 hr5 hr6 hb5 hl5 hrow5 HM4 HG4 HR4 HD4 HC4 c4 c5
    go_wp2_with fail
    have hg7 : World.grownBy _ ((((w5.setCell ⟨g, 4, none⟩ (.pointer (some ⟨a, 0, none⟩))).setCell ⟨g, 5, none⟩ (.pointer (some ⟨b, 0, none⟩))).setCell ⟨rb, 0, none⟩ (.pointer (some ⟨a, 0, none⟩))).setCell ⟨rb, 1, none⟩ (.pointer (some ⟨b, 0, none⟩))) (some rb) := (grown_setCell _ rb 0 _).trans (grown_setCell _ rb 1 _)
    have hr7 := (HR6.out.set 0 (.pointer (some ⟨a, 0, none⟩))).set 1 (.pointer (some ⟨b, 0, none⟩))
    refine bodyPost_ret (results_cell_row rfl _ _ rb 135 _ (0, 0) _ rfl hr7 Tryz.underlying135 rfl size45I) rfl ?_
    have hca := CDH.keep (H := w5.heap.size) HL4.out hg7 HLO.out.1 HLO.out.2.1 HS6.out HLO.out.2.2.1 HLO.out.2.2.2.1
    have hcb := CDH.keep (H := w5.heap.size) HL5.out hg7 HLO.out.2.2.2.2.1 (Nat.le_refl _) HS6.out HLO.out.2.2.2.2.2.1 HLO.out.2.2.2.2.2.2
    have hm7 := HM6.out.other hg7 HRG.out.1 HRG.out.2 (fun fl fd hrow hfx => by
      rcases hfx with ⟨e1, _⟩ | ⟨a', b', rfl, rfl, _⟩
      · exfalso
        have e2 := (hrow.inj HW6.out).1
        rw [e1] at e2
        have := congrArg (fun x => x[4]?) e2
        simp [mcells] at this
      · have e2 := (hrow.inj HW6.out).1
        have e3 := congrArg (fun x => x[4]?) e2
        have e4 := congrArg (fun x => x[5]?) e2
        simp [mcells] at e3 e4
        subst e3 e4
        exact .inr ⟨a', b', rfl, rfl, hca, hcb⟩)
    have hsz := hg7.size
    exact ⟨a, b, rfl, hm7.more (Nat.le_trans HS6.out hsz) (Nat.le_refl _), HG6.out.beyond hg7 (fun k hk => by injection hk with hk; rw [← hk]; exact HRW.out), hca.more (Nat.le_trans HS6.out hsz), hcb.more (Nat.le_trans HS6.out hsz)⟩
  · have HC : RowKit.Hid (CDH w w.heap.size g v a fixA ∧ CDH w w.heap.size g v b fixB) := Lib.hid ⟨ha.more hm.hs, hb.more hm.hs⟩
    have HMW := Lib.hid hm
    clear hm hrow ha hb HM HG HR HN
    go_enter Tryz.func110, Tryz.ntmps110
    go_wp2_with fail
    have hg := World.grownBy_alloc w (.cells #[.pointer (some ⟨a, 0, none⟩), .pointer (some ⟨b, 0, none⟩)] 135) none
    have hr := Row.new w #[.pointer (some ⟨a, 0, none⟩), .pointer (some ⟨b, 0, none⟩)] 135
    refine bodyPost_ret (results_cell_row rfl _ _ w.heap.size 135 _ (0, 0) _ rfl hr Tryz.underlying135 rfl size45I) rfl ?_
    have hq : ∀ k, (none : Option Nat) = some k → w.heap.size ≤ k := fun k hk => by cases hk
    exact ⟨a, b, rfl, (HMW.out.still hg).more (Nat.le_trans HMW.out.hs hg.size) (Nat.le_refl _), Moves.grown v hg (.inl rfl), (HC.out.1.beyond (Nat.le_refl _) hg hq).more hg.size, (HC.out.2.beyond (Nat.le_refl _) hg hq).more hg.size⟩
end Go.Proofs.YtpnnlhegncbfaaaGreatDoor
namespace Go.Proofs.YtpnnlhegncbfaaaGreatDoor
set_option maxRecDepth 20000
open Go.RowKit

variable {g r H : Nat} {A : Option Addr} {n c : Nat} {l : List UInt8} {lim : Nat} {v : Value} {s : Sx}
/-- Is there room for k bytes more? -/
def roomX (k : Nat) : X Unit := fun _ lim s => if lim < s.out.length + k then .error 3 else .ok ((), s)
theorem wrap64_in (z : Int) (h0 : -9223372036854775808 ≤ z) (h1 : z ≤ 9223372036854775807) : IntKind.i64.wrap z = z := by rw [IntKind.wrap_i64]; omega
theorem drew_grown (w : World) : w.grownBy w.drew none := grown_drewN w 1

set_option maxHeartbeats 1000000 in
set_option maxRecDepth 20000 in
theorem room_any (k : Nat) (hk : k ≤ 1000000) (w : World) (hm : MS w g r H A n c l lim v s) :
    Calls Tryz.prog 116 #[.pointer (some ⟨g, 0, none⟩), .int .i64 (k : Int)] w (Out w g r H A n c l lim v (roomX k (bitsL l) lim s) unit) := by
  obtain ⟨A1, c1, hv⟩ := hm.own.slice
  have c2 := hm.cell2
  have cv := hm.cell1
  have hlm := hm.lm
  have hol := hm.ol
  have HM := Lib.hid hm
  rw [hv] at cv
  clear hm hv
  unfold roomX
  obtain ⟨q, hq⟩ : ∃ q, s.out.length = q := ⟨_, rfl⟩
  rw [hq] at cv hol ⊢
  clear hq
  by_cases h : lim < q + k
  · rw [if_pos h]
    have HD : RowKit.Hid (decide ((k : Int) ≤ RowKit.wrap64 ((lim : Int) - (q : Int))) = false) := Lib.hid (decide_eq_false (by unfold RowKit.wrap64; omega))
    clear h hlm hol
    go_enter Tryz.func116, Tryz.ntmps116
    go_still_tail 12, (by kernel_rfl)
    change wpList _ _ _ _ _ w.drew
    have HG1 := Lib.hid (Moves.grown (g := g) (r := r) v (drew_grown w) (.inl rfl))
    generalize w.drew = w2 at HG1 ⊢
    go_wp2_with fail
    refine (gmust_no 3 _ w2 _ HD.out).mono ?_
    rintro e w1 ⟨rfl, rfl⟩
    exact ⟨rfl, Out.thrown rfl HG1.out 3 rfl⟩
  · rw [if_neg h]
    have HD : RowKit.Hid (decide ((k : Int) ≤ RowKit.wrap64 ((lim : Int) - (q : Int))) = true) := Lib.hid (decide_eq_true (by unfold RowKit.wrap64; omega))
    clear h hlm hol
    go_enter Tryz.func116, Tryz.ntmps116
    go_still_tail 12, (by kernel_rfl)
    change wpList _ _ _ _ _ w.drew
    have HG1 := Lib.hid (Moves.grown (g := g) (r := r) v (drew_grown w) (.inl rfl))
    have HM1 := Lib.hid (HM.out.still (drew_grown w))
    generalize w.drew = w2 at HG1 HM1 ⊢
    go_wp2_with fail
    refine (gmust_ok 3 _ w2 _ HD.out).mono ?_
    rintro e w1 ⟨rfl, rfl⟩
    go_wp2_with fail
    go_end0
    exact .inl ⟨(), s, v, rfl, HM1.out, HG1.out, rfl⟩
theorem Out.ok {α : Type} {w w' : World} {x : Except Nat (α × Sx)} {P : α → Ending → World → Value → Prop} {e : Ending} {a : α} {s' : Sx} (h : Out w g r H A n c l lim v x P e w') (hx : x = .ok (a, s')) :
    ∃ v', MS w' g r H A n c l lim v' s' ∧ Moves w w' g r v v' ∧ P a e w' v' := by
  rcases h with ⟨a1, s1, v1, h1, h2, h3, h4⟩ | ⟨k, b, v1, h1, _⟩
  · rw [hx] at h1; injection h1 with h1; injection h1 with h5 h6; subst h5 h6; exact ⟨v1, h2, h3, h4⟩
  · rw [hx] at h1; cases h1
theorem Out.no {α : Type} {w w' : World} {x : Except Nat (α × Sx)} {P : α → Ending → World → Value → Prop} {e : Ending} {k : Nat} (h : Out w g r H A n c l lim v x P e w') (hx : x = .error k) :
    ∃ b v', e = .panicked (flt ⟨b, 0, none⟩) ∧ w.heap.size ≤ b ∧ w'.cell? ⟨b, 0, none⟩ = some (.int .i64 (k : Int)) ∧ Moves w w' g r v v' := by
  rcases h with ⟨a1, s1, v1, h1, _⟩ | ⟨k1, b, v1, h1, h2, h3, h4, h5⟩
  · rw [hx] at h1; cases h1
  · rw [hx] at h1; injection h1 with h1; subst h1; exact ⟨b, v1, h2, h3, h4, h5⟩
end Go.Proofs.YtpnnlhegncbfaaaGreatDoor
