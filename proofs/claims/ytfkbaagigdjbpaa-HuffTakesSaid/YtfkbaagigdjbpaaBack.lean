/- Contract of the law HuffBack. -/
import Derived.Test.YtfkbaagigdjbpaaPut
namespace Go.Proofs.Ytfkbaagigdjbpaa
open Go.RowKit

/-- The signs that have a code. -/
def doneS (ls : List Nat) (l : List Int) : List Int := l.filter fun s => decide (lenI ls s ≠ 0)
/-- Their bits. -/
def bitsS (ls : List Nat) (D : List Int) : List UInt8 := D.flatMap (bitsO ls)
theorem bitsS_append (ls : List Nat) (a b : List Int) : bitsS ls (a ++ b) = bitsS ls a ++ bitsS ls b := by simp [bitsS]
theorem bitsS_one (ls : List Nat) (s : Int) : bitsS ls [s] = bitsO ls s := by simp [bitsS]
theorem bin_bitsS (ls : List Nat) (D : List Int) : Bin (bitsS ls D) := fun b hb => by
  obtain ⟨x, _, h⟩ := List.mem_flatMap.1 hb
  exact bin_bitsO _ _ b h
theorem done_ok {ls : List Nat} {l : List Int} {k : Nat} {s : Int} (h : l[k]? = some s) (ho : lenI ls s ≠ 0) : doneS ls (l.take (k + 1)) = doneS ls (l.take k) ++ [s] := by
  rw [take_more h]; unfold doneS; rw [List.filter_append]; simp [ho]
theorem done_no {ls : List Nat} {l : List Int} {k : Nat} {s : Int} (h : l[k]? = some s) (ho : lenI ls s = 0) : doneS ls (l.take (k + 1)) = doneS ls (l.take k) := by
  rw [take_more h]; unfold doneS; rw [List.filter_append]; simp [ho]
theorem doneS_length (ls : List Nat) (l : List Int) : (doneS ls l).length ≤ l.length := List.length_filter_le _ _
theorem doneS_all (ls : List Nat) (l : List Int) : ∀ s ∈ doneS ls l, lenI ls s ≠ 0 := fun _ ha => by simpa using (List.mem_filter.1 ha).2
theorem bitsS_length {ls : List Nat} (hl : Low ls) : ∀ D : List Int, (bitsS ls D).length ≤ 15 * D.length
  | [] => by simp [bitsS]
  | a :: D => by
    have h1 := bitsS_length hl D
    have h2 := lenI_bound hl a
    rw [show a :: D = [a] ++ D from rfl, bitsS_append, bitsS_one, List.length_append, bitsO_length]
    simp; omega
theorem numB_inj : ∀ (a b : List UInt8), Bin a → Bin b → a.length = b.length → numB a = numB b → a = b
  | [], [], _, _, _, _ => rfl
  | x :: a, y :: b, ha, hb, hl, hn => by
    simp only [numB] at hn
    have hx := ha x (by simp)
    have hy := hb y (by simp)
    have h1 : x = y := UInt8.toNat_inj.1 (by omega)
    subst h1
    rw [numB_inj a b (fun z hz => ha z (List.mem_cons_of_mem _ hz)) (fun z hz => hb z (List.mem_cons_of_mem _ hz)) (by simpa using hl) (by omega)]
/-- The bits that are read are those that were written. -/
theorem text_bits {M : List UInt8} (h : Bin M) : (bitsL (textB M)).take M.length = M := by
  have hl : M.length ≤ (bitsL (textB M)).length := by rw [bitsL_length, textB_length]; omega
  refine numB_inj _ _ ((bin_bitsL _).take _) h (by rw [List.length_take]; omega) ?_
  have := numB_part (bin_bitsL (textB M)) 0 M.length (by omega)
  rw [List.drop_zero, Nat.pow_zero, Nat.div_one, numB_bitsL, numL_textB h, Nat.mod_eq_of_lt (numB_lt h)] at this
  exact this
/-- At each sign's place its code is next. -/
theorem back_hit {ls : List Nat} (hlow : Low ls) (hok : okF (cnt ls)) {D : List Int} {j : Nat} {s : Int} (h : D[j]? = some s) (hs : lenI ls s ≠ 0) :
    tkO ls (left (textB (bitsS ls D)) (bitsS ls (D.take j)).length) = some s.toNat ∧ lenAt ls s.toNat = lenI ls s ∧ 0 ≤ s ∧ (bitsS ls (D.take (j + 1))).length = (bitsS ls (D.take j)).length + lenI ls s := by
  have h0 : ¬ s < 0 := fun h0 => hs (by unfold lenI; rw [if_pos h0])
  have hle : lenI ls s = lenAt ls s.toNat := by unfold lenI; rw [if_neg h0]
  have hce : codeI ls s = codeAt ls s.toNat := by unfold codeI; rw [if_neg h0]
  have e : bitsS ls D = bitsS ls (D.take j) ++ (bitsO ls s ++ bitsS ls (D.drop (j + 1))) := by
    have : D = D.take (j + 1) ++ D.drop (j + 1) := by rw [List.take_append_drop]
    conv => lhs; rw [this]
    rw [bitsS_append, take_more h, bitsS_append, bitsS_one, List.append_assoc]
  have hl : (bitsS ls (D.take (j + 1))).length = (bitsS ls (D.take j)).length + lenI ls s := by rw [take_more h, bitsS_append, bitsS_one, List.length_append, bitsO_length]
  refine ⟨?_, hle.symm, by omega, hl⟩
  have hb := bin_left (textB (bitsS ls D)) (bitsS ls (D.take j)).length
  refine tkO_hit hb ⟨by rw [← hle]; exact hs, ?_, ?_⟩
  · rw [left_length, textB_length, e]
    simp only [List.length_append, bitsO_length]
    omega
  · have ht := text_bits (bin_bitsS ls D)
    have h1 : (left (textB (bitsS ls D)) (bitsS ls (D.take j)).length).take (lenAt ls s.toNat) = bitsO ls s := by
      unfold left
      generalize bitsL (textB (bitsS ls D)) = X at ht ⊢
      have e2 := (List.take_append_drop (bitsS ls D).length X).symm
      rw [ht] at e2
      generalize X.drop (bitsS ls D).length = R at e2
      rw [e2, e, List.append_assoc, List.drop_left, List.append_assoc]
      exact List.take_left' (by rw [bitsO_length, hle])
    rw [h1]
    unfold bitsO
    rw [hiB_low _ _ (codeI_pow hlow hok s), hce]

/-- What the first loop keeps. -/
structure L1 (W : World) (g gw : Nat) (ls : List Nat) (D : List Int) (u : Value) (wr : World) : Prop where
  wm : ∃ v, WM wr gw gw v (bitsS ls D)
  own : OwnI wr gw u D
  below : Below W.heap.size W wr
  hc : HC wr gw g ls
  base : W.heap.size ≤ gw
  size : gw ≤ wr.heap.size
/-- What the second loop keeps. -/
structure L2 (W : World) (g gw r : Nat) (ls : List Nat) (A : Option Addr) (T c : Nat) (D : List Int) (u : Value) (p : Nat) (wr : World) : Prop where
  wm : ∃ v, WM wr gw gw v (bitsS ls D)
  own : OwnI wr gw u D
  ra : RA wr [r] r A T c (textB (bitsS ls D)) p
  below : Below W.heap.size W wr
  hc : HC wr gw g ls
  base : W.heap.size ≤ r
  up : gw ≤ r
theorem L2.read {W : World} {g gw r : Nat} {ls : List Nat} {A : Option Addr} {T c : Nat} {D : List Int} {u : Value} {p q : Nat} {wr w' : World} (h : L2 W g gw r ls A T c D u p wr) (hr : RA w' [r] r A T c (textB (bitsS ls D)) q) (hg : wr.grownBy w' (some r)) : L2 W g gw r ls A T c D u q w' := by
  obtain ⟨v, hw⟩ := h.wm
  have hne : some gw ≠ some r := fun e => by
    injection e with e
    have h1 := hw.wr.row
    have h2 := h.ra.row
    subst e
    unfold Row at h1 h2
    rw [h1] at h2
    injection h2 with h2
    injection h2 with _ h3
    exact absurd h3 (by decide)
  exact ⟨⟨v, hw.kept hg hne (.inr (own_notRow hw.wr.own h.ra.row (by decide)))⟩, World.ownsRow.kept h.own hg (.inr (own_notRow h.own h.ra.row (by decide))), hr, h.below.grown hg h.below.size (fun k e => by injection e with e; subst e; exact h.base),
    h.hc.grown (Nat.le_trans h.up (Nat.le_of_lt h.ra.row.lt)) hg (fun k e => by injection e with e; subst e; exact h.up), h.base, h.up⟩
theorem below_own {W w w' : World} (h : Below W.heap.size W w) (hg : w.grownBy w' none) : Below W.heap.size W w' := h.trans ((below_make hg).mono h.size)
theorem noCap {w : World} {B : Nat} {A : Option Addr} {n c : Nat} {l : List UInt8} (h : Own w B (.slice A n c) l) : A = none → c = 0 := by
  rcases h.2 with ⟨hv, _⟩ | ⟨g, cap, cur, hv, _⟩
  · injection hv with h1 h2 h3; intro _; exact h3
  · injection hv with h1 h2 h3; intro e; rw [e] at h1; cases h1

set_option maxHeartbeats 400000 in
theorem back_long (A : Option Addr) (n c : Nat) (A' : Option Addr) (n' c' : Nat) (w : World) (hn : 330 < n ∨ 60 < n') :
    Calls Try.prog 5 #[.slice A n c, .slice A' n' c'] w fun e w' => e = .returned (.bool true) ∧ Below w.heap.size w w' := by
  by_cases h1 : 330 < n
  · have hd : decide ((330 : Int) < (n : Int)) = true := decide_eq_true (by omega)
    clear hn
    go_enter Try.func5, Try.ntmps5
    go_wp2_with fail
    refine (alive_true w).mono ?_
    rintro e w1 ⟨rfl, hb1⟩
    have HB1 := Lib.hid hb1
    clear hb1
    go_wp2_with fail
    go_ret
    exact ⟨rfl, HB1.out⟩
  · have hd : decide ((330 : Int) < (n : Int)) = false := decide_eq_false (by omega)
    have hd2 : decide ((60 : Int) < (n' : Int)) = true := decide_eq_true (by omega)
    have h2 : 60 < n' := by omega
    clear hn
    go_enter Try.func5, Try.ntmps5
    go_wp2_with fail
    refine (alive_true w).mono ?_
    rintro e w1 ⟨rfl, hb1⟩
    have HB1 := Lib.hid hb1
    clear hb1
    go_wp2_with fail
    go_ret
    exact ⟨rfl, HB1.out⟩
theorem ownI_mono {w : World} {B B' : Nat} {v : Value} {l : List Int} (h : OwnI w B v l) (hb : B' ≤ B) : OwnI w B' v l := by
  refine ⟨h.1, ?_⟩
  rcases h.2 with h1 | ⟨g, cap, cur, h1, h2, h3⟩
  · exact .inl h1
  · exact .inr ⟨g, cap, cur, h1, by omega, h3⟩
theorem lenI_ge {ls : List Nat} {t : Nat} (h : ls.length ≤ t) : lenI ls (t : Int) = 0 := by rw [lenI_nat, lenAt_ge h]

set_option maxHeartbeats 4000000 in
theorem back_any (A : Option Addr) (n c : Nat) (L : List Int) (A' : Option Addr) (n' c' : Nat) (SS : List Int) (w : World) (hr : Rd w w.heap.size A n (is L)) (hA : A = none → c = 0) (hr' : Rd w w.heap.size A' n' (is SS)) (hn : n ≤ 330) (hn' : n' ≤ 60) :
    Calls Try.prog 5 #[.slice A n c, .slice A' n' c'] w fun e w' => e = .returned (.bool true) ∧ Below w.heap.size w w' := by
  have hd : decide ((330 : Int) < (n : Int)) = false := decide_eq_false (by omega)
  have hd2 : decide ((60 : Int) < (n' : Int)) = false := decide_eq_false (by omega)
  have HR := Lib.hid hr
  have HA := Lib.hid hA
  have HR' := Lib.hid hr'
  have HLN : RowKit.Hid (L.length = n) := Lib.hid (by have := hr.1; rwa [is_length] at this)
  have HSN : RowKit.Hid (SS.length = n') := Lib.hid (by have := hr'.1; rwa [is_length] at this)
  clear hr hA hr'
  go_enter Try.func5, Try.ntmps5
  go_wp2_with fail
  refine (alive_true w).mono ?_
  rintro e w1 ⟨rfl, hb1⟩
  have HB1 := Lib.hid hb1
  clear hb1
  go_wp2_with fail
  refine (new_any A n c L true w1 (HR.out.next HB1.out) HA.out (by omega)).mono ?_
  rintro e w2 ⟨hb2, hno, hyes⟩
  have HB2 := Lib.hid (HB1.out.trans (hb2.mono HB1.out.size))
  clear hb2 HB1
  by_cases hz : newE L true = 0
  · obtain ⟨g, rfl, hc⟩ := hyes hz
    have HRG := Lib.hid (newE_rng hz)
    have HC := Lib.hid hc
    obtain ⟨ls, HLS⟩ : ∃ ls, RowKit.Hid (nats L = ls) := ⟨_, Lib.hid rfl⟩
    have HLL : RowKit.Hid (ls.length = n) := Lib.hid (by rw [← HLS.out, nats_length, HLN.out])
    have HRL : RowKit.Hid (Rd w w.heap.size A n (ia (lenAt ls) n).toList) := Lib.hid (by have := HR.out; rw [is_nats HRG.out, HLN.out, HLS.out] at this; exact this)
    rw [HLS.out] at HC
    clear hz hno hyes hc HR HRG HLS
    go_wp2_with fail
    refine (newWriter_any w2).mono ?_
    rintro e w3 ⟨rfl, hW3, hg3⟩
    have hsz3 := hg3.size
    have hI : L1 w g w2.heap.size ls [] (.slice (some ⟨w3.heap.size, 0, none⟩) 0 0) (w3.alloc (.cells #[] 3)) :=
      ⟨⟨_, hW3.still ((Below.refl _ _).alloc (Nat.le_refl _) _)⟩, ownI_mono (OwnI.lit w3 #[] [] 0 rfl rfl (by decide)) hsz3, (HB2.out.trans ((below_make hg3).mono HB2.out.size)).alloc (Nat.le_trans HB2.out.size hsz3) _,
        (HC.out.below (below_make hg3)).below ((Below.refl _ w3).alloc hsz3 _), HB2.out.size, by simp; omega⟩
    have HI := Lib.hid hI
    have HLO := Lib.hid (And.intro HC.out.low HC.out.ok)
    clear hI hW3 hg3 hsz3 HB2 HC
    go_wp2_with fail
    generalize w2.heap.size = gw at HI ⊢
    generalize (Value.slice (some ⟨w3.heap.size, 0, none⟩) 0 0) = u0 at HI ⊢
    generalize w3.alloc (.cells #[] 3) = w4 at HI ⊢
    go_loopw [8, 9, 41] (fun u mn ix wr => ∃ k : Nat, k ≤ n' ∧ mn = .int .i64 ((bitsS ls (doneS ls (SS.take k))).length : Int) ∧ ix = .int .i64 (k : Int) ∧ L1 w g gw ls (doneS ls (SS.take k)) u wr) (fun _ _ ix _ => n' - (intOf ix).toNat)
    case atStart => exact ⟨0, by omega, rfl, rfl, HI.out⟩
    case round =>
      clear HI
      obtain ⟨k, hk, rfl, rfl, hI⟩ := hrel
      have HI := Lib.hid hI
      clear hI
      by_cases hlt : k < n'
      · have d0 : decide ((k : Int) < (n' : Int)) = true := decide_eq_true (by omega)
        obtain ⟨s, HX⟩ : ∃ s, RowKit.Hid (SS[k]? = some s) := ⟨_, Lib.hid (List.getElem?_eq_getElem (by rw [HSN.out]; exact hlt))⟩
        obtain ⟨b', o', rfl, hb', c0⟩ := (HR'.out.below HI.out.below).atI HX.out
        have hDL : (doneS ls (SS.take k)).length ≤ 60 := by
          have h1 := doneS_length ls (SS.take k)
          rw [List.length_take] at h1
          omega
        have hmL := bitsS_length HLO.out.1 (doneS ls (SS.take k))
        have hmL2 : (bitsS ls (doneS ls (SS.take k))).length ≤ 900 := by omega
        clear hmL
        go_wp2_with fail
        clear c0 hb'
        obtain ⟨v, hWM⟩ := HI.out.wm
        refine (hput_any gw g gw gw ls s _ v wr HI.out.hc hWM HI.out.size (by omega)).mono ?_
        rintro e w5 ⟨rfl, v5, hW5, hS5⟩
        have hb5 := hS5.below hWM.wr HI.out.size (Nat.le_refl _)
        have HO5 := Lib.hid (HI.out.own.st hS5 hWM.wr)
        have HB5 := Lib.hid (HI.out.below.trans (hb5.mono HI.out.base))
        have HC5 := Lib.hid (HI.out.hc.below hb5)
        have HZ5 : RowKit.Hid (w.heap.size ≤ gw ∧ gw ≤ w5.heap.size) := Lib.hid ⟨HI.out.base, Nat.le_trans HI.out.size hS5.size⟩
        have HW5 := Lib.hid hW5
        clear hW5 hS5 hWM hb5 HI
        by_cases h0 : lenI ls s = 0
        · have e1 : ofE ls s = 1 := if_pos h0
          rw [e1]
          have HD := Lib.hid (done_no HX.out h0)
          have HBO : RowKit.Hid (bitsO ls s = []) := Lib.hid (List.eq_nil_of_length_eq_zero (by rw [bitsO_length, h0]))
          have HJ : RowKit.Hid (L1 w g gw ls (doneS ls (SS.take (k + 1))) u8 w5) := Lib.hid ⟨⟨v5, by have := HW5.out; rw [HBO.out, List.append_nil, ← HD.out] at this; exact this⟩, by rw [HD.out]; exact HO5.out, HB5.out, HC5.out, HZ5.out.1, HZ5.out.2⟩
          clear e1 HO5 HB5 HC5 HZ5 HW5 HBO
          by_cases hs0 : s < 0
          · have d1 : decide (s < 0) = true := decide_eq_true hs0
            clear h0
            go_wp2_with fail
            refine (is_same 1 w5).mono ?_
            rintro e w6 ⟨rfl, rfl⟩
            go_wp2_with fail
            go_roundw
            case rel => exact ⟨k + 1, by omega, by rw [HD.out], by simp, HJ.out⟩
            case measure => simp [intOf]; omega
          · have d1 : decide (s < 0) = false := decide_eq_false hs0
            obtain ⟨t, rfl⟩ : ∃ t : Nat, s = (t : Int) := ⟨s.toNat, by omega⟩
            by_cases htn : n ≤ t
            · have d2 : decide ((n : Int) ≤ (t : Int)) = true := decide_eq_true (by omega)
              clear h0
              go_wp2_with fail
              refine (is_same 1 w5).mono ?_
              rintro e w6 ⟨rfl, rfl⟩
              go_wp2_with fail
              go_roundw
              case rel => exact ⟨k + 1, by omega, by rw [HD.out], by simp, HJ.out⟩
              case measure => simp [intOf]; omega
            · have d2 : decide ((n : Int) ≤ (t : Int)) = false := decide_eq_false (by omega)
              have htn2 : ¬ n ≤ t := htn
              obtain ⟨b, o, rfl, _, c1⟩ := (HRL.out.below HJ.out.below).ia (show t < n by omega)
              rw [lenI_nat] at h0
              rw [h0] at c1
              have htn3 : t < n := by omega
              clear h0 htn
              go_wp2_with fail
              refine (is_same 1 w5).mono ?_
              rintro e w6 ⟨rfl, rfl⟩
              go_wp2_with fail
              go_roundw
              case rel => exact ⟨k + 1, by omega, by rw [HD.out], by simp, HJ.out⟩
              case measure => simp [intOf]; omega
        · have e1 : ofE ls s = 0 := if_neg h0
          rw [e1, show errV 0 = .nilIface from rfl]
          have HD := Lib.hid (done_ok HX.out h0)
          have hs0 : ¬ s < 0 := fun h => h0 (by unfold lenI; rw [if_pos h])
          have d1 : decide (s < 0) = false := decide_eq_false hs0
          obtain ⟨t, rfl⟩ : ∃ t : Nat, s = (t : Int) := ⟨s.toNat, by omega⟩
          have htn3 : t < n := by
            rw [lenI_nat] at h0
            have := lenAt_lt h0
            rw [HLL.out] at this; exact this
          have d2 : decide ((n : Int) ≤ (t : Int)) = false := decide_eq_false (by omega)
          obtain ⟨b, o, rfl, hb, c1⟩ := (HRL.out.below HB5.out).ia htn3
          have hy := lenI_bound HLO.out.1 (t : Int)
          have HBL := Lib.hid (bitsO_length ls (t : Int))
          rw [lenI_nat] at h0 hy HBL
          have d3 : ((lenAt ls t : Int) == 0) = false := by rw [beq_eq_false_iff_ne]; omega
          have HBB := Lib.hid hb
          obtain ⟨y, HY⟩ : ∃ y, RowKit.Hid (lenAt ls t = y) := ⟨_, Lib.hid rfl⟩
          rw [HY.out] at c1 d3 hy HBL
          have htn4 : ¬ n ≤ t := by omega
          clear e1 h0 hs0 hb
          go_wp2_with (at_builtin; refine pushI w5 rfl (.tmp 69) (.tmp 71) rfl gw u8 (doneS ls (SS.take k)) [(t : Int)] _ 1 rfl rfl HO5.out rfl rfl HZ5.out.2 (by omega) ?_)
          intro v' w' ho hg _
          have hbw : Below w.heap.size w w' := HB5.out.grown hg HB5.out.size fun q hq => Nat.le_trans HZ5.out.1 (World.ownsRow.lt HO5.out q hq).1
          have hJ : L1 w g gw ls (doneS ls (SS.take (k + 1))) v' w' := ⟨⟨v5, by have := HW5.out.pushed HO5.out hg; rw [HD.out, bitsS_append, bitsS_one]; exact this⟩, by rw [HD.out]; exact ho, hbw,
            HC5.out.grown HZ5.out.2 hg (fun q hq => (World.ownsRow.lt HO5.out q hq).1), HZ5.out.1, Nat.le_trans HZ5.out.2 hg.size⟩
          replace c1 := ((HRL.out.below hbw).ia htn3)
          obtain ⟨b2, o2, hbo, _, c1⟩ := c1
          injection hbo with hbo
          injection hbo with e1 e2 e3
          subst e1 e2
          rw [HY.out] at c1
          have HJ := Lib.hid hJ
          have HLE : RowKit.Hid ((bitsS ls (doneS ls (SS.take (k + 1)))).length = (bitsS ls (doneS ls (SS.take k))).length + y) := Lib.hid (by rw [HD.out, bitsS_append, bitsS_one, List.length_append, HBL.out])
          generalize (bitsS ls (doneS ls (SS.take k))).length = q at HLE hmL2 ⊢
          clear ho hg hJ hbw HO5 HB5 HC5 HZ5 HW5
          go_wp2_with fail
          go_roundw
          case rel => exact ⟨k + 1, by omega, by rw [HLE.out]; simp, by simp, HJ.out⟩
          case measure => simp [intOf]; omega
      · obtain rfl : k = n' := by omega
        have d0 : decide ((k : Int) < (k : Int)) = false := decide_eq_false (by omega)
        rw [List.take_of_length_le (by rw [HSN.out]; exact Nat.le_refl _)] at HI ⊢
        obtain ⟨D, HD⟩ : ∃ D, RowKit.Hid (doneS ls SS = D) := ⟨_, Lib.hid rfl⟩
        rw [HD.out] at HI ⊢
        have hDL : D.length ≤ 60 := by have h1 := doneS_length ls SS; rw [HSN.out, HD.out] at h1; omega
        have HDA := Lib.hid (show ∀ s ∈ D, lenI ls s ≠ 0 by rw [← HD.out]; exact doneS_all ls SS)
        have hmL : (bitsS ls D).length ≤ 900 := by have := bitsS_length HLO.out.1 D; omega
        obtain ⟨v, hWM⟩ := HI.out.wm
        have HWM := Lib.hid hWM
        clear hWM
        go_wp2_with fail
        refine (wtext_any gw gw _ v wr HWM.out (by omega)).mono ?_
        rintro e w5 ⟨u, rfl, hou, hgu⟩
        obtain ⟨T, hT⟩ : ∃ T, (textB (bitsS ls D)).length = T := ⟨_, rfl⟩
        have hTv : T = ((bitsS ls D).length + 7) / 8 := by rw [← hT, textB_length]
        obtain ⟨A4, c4, hu4⟩ := hou.slice
        rw [hT] at hu4
        subst hu4
        have HT := Lib.hid hT
        have hTb : T ≤ 1000000 := by omega
        have HF := Lib.hid (And.intro (show L1 w g gw ls D u8 w5 from ⟨⟨v, HWM.out.kept hgu (by simp) (ne_none v)⟩, World.ownsRow.kept HI.out.own hgu (ne_none u8), below_own HI.out.below hgu, HI.out.hc.grown HI.out.size hgu (fun _ h => by cases h), HI.out.base, Nat.le_trans HI.out.size hgu.size⟩) (And.intro hou.rd.2 (noCap hou)))
        clear hou hgu HWM HI hT hTv
        go_wp2_with fail
        refine (newReader_any A4 T c4 _ w5 HF.out.2.1 HF.out.2.2 hTb).mono ?_
        rintro e w6 ⟨r, A5, c5, rfl, hg2, hrow, hcap, hrd, _, hform, hlc, hg5⟩
        have h2 : L2 w g gw r ls A5 T c5 D u8 0 w6 := by
          obtain ⟨v', hw'⟩ := HF.out.1.wm
          exact ⟨⟨v', hw'.kept hg5 (by simp) (ne_none v')⟩, World.ownsRow.kept HF.out.1.own hg5 (ne_none u8), ⟨hrow, hrd.rdS (Nat.le_of_lt hrow.lt) (fun k hk => by have := List.mem_singleton.1 hk; omega), hcap, by omega, hform, hlc⟩, below_own HF.out.1.below hg5,
            HF.out.1.hc.grown HF.out.1.size hg5 (fun _ h => by cases h), Nat.le_trans HF.out.1.base (Nat.le_trans HF.out.1.size hg2), Nat.le_trans HF.out.1.size hg2⟩
        obtain ⟨Ad, cd, hu⟩ := h2.own.slice
        subst hu
        have H2 := Lib.hid h2
        clear h2 hg2 hrow hcap hrd hform hlc hg5 HF
        obtain ⟨Q, HQ⟩ : ∃ Q, RowKit.Hid ((bitsS ls D).length = Q) := ⟨_, Lib.hid rfl⟩
        rw [HQ.out] at hmL ⊢
        go_wp2_with fail
        go_loopw [85] (fun ix wq => ∃ j : Nat, j ≤ D.length ∧ ix = .int .i64 (j : Int) ∧ L2 w g gw r ls A5 T c5 D (.slice Ad D.length cd) (bitsS ls (D.take j)).length wq) (fun ix _ => D.length - (intOf ix).toNat)
        case atStart => exact ⟨0, by omega, rfl, H2.out⟩
        case round =>
          clear H2
          obtain ⟨j, hj, rfl, h2⟩ := hrel
          have H2 := Lib.hid h2
          clear h2
          by_cases hjt : j < D.length
          · have d1 : decide ((j : Int) < (D.length : Int)) = true := decide_eq_true (by omega)
            obtain ⟨s, hs⟩ : ∃ s, D[j]? = some s := ⟨_, List.getElem?_eq_getElem hjt⟩
            obtain ⟨ob, off, rfl, _, c0⟩ := H2.out.own.rd.2.atI hs
            obtain ⟨e1, e2, e3, e4⟩ := back_hit HLO.out.1 HLO.out.2 hs (HDA.out s (List.mem_of_getElem? hs))
            obtain ⟨t, rfl⟩ : ∃ t : Nat, s = (t : Int) := ⟨s.toNat, by omega⟩
            rw [Int.toNat_natCast] at e1 e2
            have HE : RowKit.Hid (tkS ls (left (textB (bitsS ls D)) (bitsS ls (D.take j)).length) = t ∧ tkE ls (left (textB (bitsS ls D)) (bitsS ls (D.take j)).length) = 0 ∧ (bitsS ls (D.take j)).length + tkN ls (left (textB (bitsS ls D)) (bitsS ls (D.take j)).length) = (bitsS ls (D.take (j + 1))).length) :=
              Lib.hid ⟨by unfold tkS; rw [e1]; rfl, by unfold tkE; rw [e1], by unfold tkN; rw [e1, e4]; show _ + lenAt ls t = _; rw [e2]⟩
            have hne : ((t : Int) != (t : Int)) = false := by simp
            clear hs e1 e2 e3 e4
            go_wp2_with fail
            clear c0
            refine (take_any gw g r ls wr H2.out.hc H2.out.ra (by simp) H2.out.up hTb).mono ?_
            rintro e w7 ⟨rfl, hra, hg7⟩
            rw [HE.out.1, HE.out.2.1, show errV 0 = .nilIface from rfl]
            rw [HE.out.2.2] at hra
            have H7 := Lib.hid (H2.out.read hra hg7)
            clear hra hg7 H2
            go_wp2_with fail
            go_roundw
            case rel => exact ⟨j + 1, by omega, by simp, H7.out⟩
            case measure => simp [intOf]; omega
          · obtain rfl : j = D.length := by omega
            have d1 : decide ((D.length : Int) < (D.length : Int)) = false := decide_eq_false (by omega)
            rw [List.take_length, HQ.out] at H2
            have heq : ((Q : Int) == (Q : Int)) = true := by simp
            go_wp2_with fail
            refine (at_any r wr H2.out.ra).mono ?_
            rintro e w7 ⟨rfl, rfl⟩
            go_wp2_with fail
            obtain ⟨v7, hv7⟩ := H2.out.wm
            refine (wlen_any gw gw _ v7 w7 hv7 (by rw [HQ.out]; omega)).mono ?_
            rintro e w8 ⟨rfl, rfl⟩
            rw [HQ.out]
            have HB8 := Lib.hid (below_drew H2.out.below)
            generalize w7.drew = w8 at HB8 ⊢
            clear H2 hv7
            go_wp2_with fail
            go_ret
            exact ⟨rfl, HB8.out⟩
  · obtain rfl := hno hz
    obtain ⟨k, hk⟩ : ∃ k, newE L true = k + 1 := ⟨newE L true - 1, by omega⟩
    rw [hk, show errV (k + 1) = .iface 52 (.int .i64 ((k + 1 : Nat) : Int)) from rfl]
    clear hz hno hyes hk
    go_wp2_with fail
    go_ret
    exact ⟨rfl, HB2.out⟩
theorem back_all (A : Option Addr) (n c : Nat) (L : List Int) (A' : Option Addr) (n' c' : Nat) (SS : List Int) (w : World) (hr : Rd w w.heap.size A n (is L)) (hA : A = none → c = 0) (hr' : Rd w w.heap.size A' n' (is SS)) :
    Calls Try.prog 5 #[.slice A n c, .slice A' n' c'] w fun e w' => e = .returned (.bool true) ∧ Below w.heap.size w w' := by
  rcases Nat.lt_or_ge 330 n with h | h
  · exact back_long A n c A' n' c' w (.inl h)
  · rcases Nat.lt_or_ge 60 n' with h' | h'
    · exact back_long A n c A' n' c' w (.inr h')
    · exact back_any A n c L A' n' c' SS w hr hA hr' h h'
end Go.Proofs.Ytfkbaagigdjbpaa
