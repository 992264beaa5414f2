/- Contract of the law HuffTakes. -/
import Derived.Test.YtfkbaagigdjbpaaRtk
import Derived.Test.YtfkbaagigdjbpaaRef
namespace Go.Proofs.Ytfkbaagigdjbpaa
open Go.RowKit

set_option maxHeartbeats 400000 in
theorem takes_long (A : Option Addr) (n c : Nat) (A' : Option Addr) (n' c' : Nat) (z : Int) (w : World) (hn : 60 < n ∨ 30 < n') :
    Calls Try.prog 4 #[.slice A n c, .slice A' n' c', .int .i64 z] w fun e w' => e = .returned (.bool true) ∧ Below w.heap.size w w' := by
  by_cases h1 : 60 < n
  · have hd : decide ((60 : Int) < (n : Int)) = true := decide_eq_true (by omega)
    clear hn
    go_enter Try.func4, Try.ntmps4
    go_wp2_with fail
    refine (alive_true w).mono ?_
    rintro e w1 ⟨rfl, hb1⟩
    have HB1 := Lib.hid hb1
    clear hb1
    go_wp2_with fail
    go_ret
    exact ⟨rfl, HB1.out⟩
  · have hd : decide ((60 : Int) < (n : Int)) = false := decide_eq_false (by omega)
    have hd2 : decide ((30 : Int) < (n' : Int)) = true := decide_eq_true (by omega)
    have h2 : 30 < n' := by omega
    clear hn
    go_enter Try.func4, Try.ntmps4
    go_wp2_with fail
    refine (alive_true w).mono ?_
    rintro e w1 ⟨rfl, hb1⟩
    have HB1 := Lib.hid hb1
    clear hb1
    go_wp2_with fail
    go_ret
    exact ⟨rfl, HB1.out⟩

/-- What the law's loops keep: the code, the texts, the bits, and a reader at the bit P. -/
structure LT (W wr : World) (K g p r n : Nat) (ls : List Nat) (Al : Option Addr) (nL cL : Nat) (A5 : Option Addr) (n' c5 : Nat) (l : List UInt8) (P : Nat) : Prop where
  hc : HC wr K g ls
  row : Row wr p (sa (strAt ls) n) 9
  bits : Rd wr r Al nL (us (bitsL l))
  ra : RA wr [r] r A5 n' c5 l P
  below : Below W.heap.size W wr
  kr : K ≤ r
  pr : p < r
  base : W.heap.size ≤ r
theorem LT.step {W wr w' : World} {K g p r n : Nat} {ls : List Nat} {Al : Option Addr} {nL cL : Nat} {A5 : Option Addr} {n' c5 : Nat} {l : List UInt8} {P Q : Nat} (h : LT W wr K g p r n ls Al nL cL A5 n' c5 l P) (hr : RA w' [r] r A5 n' c5 l Q) (hg : wr.grownBy w' (some r)) : LT W w' K g p r n ls Al nL cL A5 n' c5 l Q := by
  have hb : Below r wr w' := ⟨hg.os, hg.tape, hg.output, hg.size, fun k hk => hg.block k (by have := h.ra.row.lt; omega) (fun e => by injection e with e; omega)⟩
  exact ⟨h.hc.below (hb.mono h.kr), h.row.below hb h.pr, h.bits.below hb, hr, h.below.trans (hb.mono h.base), h.kr, h.pr, h.base⟩
theorem LT.still {W wr w' : World} {K g p r n : Nat} {ls : List Nat} {Al : Option Addr} {nL cL : Nat} {A5 : Option Addr} {n' c5 : Nat} {l : List UInt8} {P : Nat} (h : LT W wr K g p r n ls Al nL cL A5 n' c5 l P) (hg : wr.grownBy w' none) : LT W w' K g p r n ls Al nL cL A5 n' c5 l P :=
  h.step (h.ra.still hg) (grown_any hg _)
/-- The bits from P on, as a slice. -/
theorem LT.part {W wr : World} {K g p r n : Nat} {ls : List Nat} {b o : Nat} {nL cL : Nat} {A5 : Option Addr} {n' c5 : Nat} {l : List UInt8} {P : Nat} (h : LT W wr K g p r n ls (some ⟨b, o, none⟩) nL cL A5 n' c5 l P) (hP : P ≤ nL) : Rd wr wr.heap.size (some ⟨b, o + P, none⟩) (nL - P) (us (left l P)) := by
  have h1 := (h.bits.more (Nat.le_of_lt h.ra.row.lt)).part P (nL - P) (by omega)
  have hl : (us (bitsL l)).length = nL := h.bits.1
  rw [List.take_of_length_le (by rw [List.length_drop, hl]; exact Nat.le_refl _)] at h1
  have e : (us (bitsL l)).drop P = us (left l P) := by simp [us, left]
  rwa [e] at h1
theorem left_none {l : List UInt8} {P : Nat} (h : 8 * l.length ≤ P) : left l P = [] := List.eq_nil_of_length_eq_zero (by rw [left_length]; omega)
theorem capL {w : World} {B : Nat} {A : Option Addr} {n c : Nat} {l : List UInt8} (h : Own w B (.slice A n c) l) : (A = none ∧ n = 0 ∧ c = 0) ∨ ∃ b, A = some ⟨b, 0, none⟩ ∧ n ≤ c := by
  rcases h.2 with ⟨hv, hl⟩ | ⟨g, cap, cur, hv, _, _, h4, _⟩
  · injection hv with h1 h2 h3; exact .inl ⟨h1, h2, h3⟩
  · injection hv with h1 h2 h3; exact .inr ⟨g, h1, by omega⟩

theorem skip_eq (z : Int) (nL : Nat) : ∃ P : Nat, (IntKind.u64.wrap z).tmod ((nL : Int) + 1) = (P : Int) ∧ P ≤ nL := by
  have h0 : 0 ≤ IntKind.u64.wrap z := by
    simp [IntKind.wrap, IntKind.bits, IntKind.signed]
    omega
  generalize IntKind.u64.wrap z = q at h0
  rw [Int.tmod_eq_emod_of_nonneg h0]
  have h1 := Int.emod_nonneg q (show ((nL : Int) + 1) ≠ 0 by omega)
  have h2 := Int.emod_lt_of_pos q (show 0 < (nL : Int) + 1 by omega)
  exact ⟨(q % ((nL : Int) + 1)).toNat, by omega, by omega⟩

set_option maxRecDepth 10000 in
set_option maxHeartbeats 4000000 in
theorem takes_any (A : Option Addr) (n c : Nat) (L : List Int) (A' : Option Addr) (n' c' : Nat) (l : List UInt8) (z : Int) (w : World) (hr : Rd w w.heap.size A n (is L)) (hA : A = none → c = 0) (hr' : Rd w w.heap.size A' n' (us l)) (hA' : A' = none → c' = 0) (hn : n ≤ 60) (hn' : n' ≤ 30) :
    Calls Try.prog 4 #[.slice A n c, .slice A' n' c', .int .i64 z] w fun e w' => e = .returned (.bool true) ∧ Below w.heap.size w w' := by
  have hd : decide ((60 : Int) < (n : Int)) = false := decide_eq_false (by omega)
  have hd2 : decide ((30 : Int) < (n' : Int)) = false := decide_eq_false (by omega)
  have HR := Lib.hid hr
  have HA := Lib.hid hA
  have HR' := Lib.hid hr'
  have HA' := Lib.hid hA'
  have HLN : RowKit.Hid (L.length = n) := Lib.hid (by have := hr.1; rwa [is_length] at this)
  have HLB : RowKit.Hid (l.length = n') := Lib.hid (by have := hr'.1; rwa [us_length] at this)
  clear hr hA hr' hA'
  go_enter Try.func4, Try.ntmps4
  go_wp2_with fail
  refine (alive_true w).mono ?_
  rintro e w1 ⟨rfl, hb1⟩
  have HB1 := Lib.hid hb1
  clear hb1
  go_wp2_with fail
  refine (new_any A n c L true w1 (HR.out.next HB1.out) HA.out (by omega)).mono ?_
  rintro e w2 ⟨hb2, hno, hyes⟩
  have HB2 := Lib.hid (HB1.out.trans (hb2.mono HB1.out.size))
  clear hb2 HB1
  by_cases hz : newE L true = 0
  · obtain ⟨g, rfl, hc⟩ := hyes hz
    have HC := Lib.hid hc
    have HZ := Lib.hid hz
    clear hno hyes hc hz
    go_wp2_with fail
    refine (rcodes_any A n c L true w2 (HR.out.next HB2.out) (by omega)).mono ?_
    rintro e w3 ⟨hb3, _, hyes⟩
    obtain ⟨p, rfl, hp, hrow⟩ := hyes HZ.out
    rw [HLN.out] at hrow ⊢
    have HB3 := Lib.hid (HB2.out.trans (hb3.mono HB2.out.size))
    obtain ⟨ls, HLS⟩ : ∃ ls, RowKit.Hid (nats L = ls) := ⟨_, Lib.hid rfl⟩
    rw [HLS.out] at HC hrow
    have HLL : RowKit.Hid (ls.length = n) := Lib.hid (by rw [← HLS.out, nats_length, HLN.out])
    have HC3 := Lib.hid (HC.out.below hb3)
    have HRow3 := Lib.hid hrow
    have HK3 := Lib.hid hb3.size
    clear hb3 hrow hp hyes HB2 HC
    generalize w2.heap.size = K at HC3 HK3
    go_wp2_with fail
    refine (rof_any A' n' c' l w3 (HR'.out.next HB3.out) (by omega)).mono ?_
    rintro e w4 ⟨v, rfl, hG⟩
    obtain ⟨Al, cL, hv⟩ := hG.own.slice
    have hnL : (bitsL l).length = 8 * n' := by rw [bitsL_length, HLB.out]
    rw [hnL] at hv
    obtain ⟨nL, hnLe⟩ : ∃ nL, 8 * n' = nL := ⟨_, rfl⟩
    rw [hnLe] at hv
    subst hv
    have HB4 := Lib.hid (HB3.out.trans (hG.below.mono HB3.out.size))
    have HC4 := Lib.hid (HC3.out.below (hG.below.mono HK3.out))
    have HRow4 := Lib.hid (HRow3.out.below hG.below HRow3.out.lt)
    have HS4 : RowKit.Hid (K ≤ w4.heap.size ∧ p < w4.heap.size) := Lib.hid ⟨Nat.le_trans HK3.out hG.below.size, Nat.lt_of_lt_of_le HRow3.out.lt hG.below.size⟩
    have HRd4 := Lib.hid hG.own.rd.2
    have HCap := Lib.hid (capL hG.own)
    have HNL := Lib.hid hnLe
    have hnLb : nL ≤ 240 := by omega
    clear hG hnL hnLe HB3 HC3 HRow3 HK3
    go_wp2_with fail
    refine (newReader_any A' n' c' l w4 (HR'.out.next HB4.out) HA'.out (by omega)).mono ?_
    rintro e w5 ⟨r, A5, c5, rfl, hgr, hrow5, hcap, hrd, _, hform, hlc, hg5⟩
    have HI : RowKit.Hid (LT w w5 K g p r n ls Al nL cL A5 n' c5 l 0) := Lib.hid ⟨HC4.out.grown HS4.out.1 hg5 (fun _ h => by cases h), HRow4.out.grown hg5 (by simp), (HRd4.out.below (below_make hg5)).more hgr,
      ⟨hrow5, hrd.rdS (Nat.le_of_lt hrow5.lt) (fun k hk => by have := List.mem_singleton.1 hk; omega), hcap, by omega, hform, hlc⟩, HB4.out.grown hg5 HB4.out.size (fun _ h => by cases h), Nat.le_trans HS4.out.1 hgr, Nat.lt_of_lt_of_le HS4.out.2 hgr, Nat.le_trans HB4.out.size hgr⟩
    clear hgr hrow5 hcap hrd hform hlc hg5 HB4 HC4 HRow4 HS4 HRd4
    rcases HCap.out with ⟨hA0, hn0, hc0⟩ | ⟨b, hAb, hlc⟩
    · subst hA0 hn0 hc0
      go_wp2_with fail
      go_loopw [60] (fun i wr => i = .int .i64 0 ∧ LT w wr K g p r n ls none 0 0 A5 n' c5 l 0) (fun _ _ => 0)
      case atStart => exact ⟨rfl, HI.out⟩
      case round =>
        clear HI
        obtain ⟨rfl, hI⟩ := hrel
        have HI := Lib.hid hI
        clear hI
        go_wp2_with fail
        go_loopw [13, 70] (fun sk i wr => ∃ j P : Nat, j ≤ 20 ∧ sk = .int .i64 (P : Int) ∧ i = .int .i64 (j : Int) ∧ LT w wr K g p r n ls none 0 0 A5 n' c5 l P) (fun _ i _ => 20 - (intOf i).toNat)
        case atStart => exact ⟨0, 0, by omega, rfl, rfl, HI.out⟩
        case round =>
          clear HI
          obtain ⟨j, P, hj, rfl, rfl, hI⟩ := hrel
          have HI := Lib.hid hI
          clear hI
          by_cases hj20 : j < 20
          · have dj : decide ((j : Int) < 20) = true := decide_eq_true (by omega)
            have hPn : P ≤ 0 := by have := HI.out.ra.le; have := HNL.out; omega
            have hTb := HI.out.hc
            have HLO := Lib.hid (And.intro hTb.low hTb.ok)
            clear hTb
            have HTN : RowKit.Hid (P + tkN ls (left l P) ≤ 1000) := Lib.hid (by
              have h1 : tkN ls (left l P) ≤ 15 := by
                unfold tkN
                split
                · exact lenAt_low HLO.out.1 _
                · omega
              omega)
            have HRT : RowKit.Hid (∀ A m cc, Rd wr wr.heap.size A m (us (left l P)) → m ≤ 1000 → Calls Try.prog 18 #[.slice (some ⟨p, 0, none⟩) n n, .slice A m cc] wr fun e w' => e = .returned (.tuple #[.int .i64 (tkS ls (left l P) : Int), .int .i64 (tkN ls (left l P) : Int), .int .i64 (tkE ls (left l P) : Int)]) ∧ ∃ k, w' = wr.drewN k) :=
              Lib.hid (fun A m cc h1 h2 => rtake_any ls p n A m cc (left l P) wr HLO.out.1 HLO.out.2 HLL.out (by omega) HI.out.row h1 (bin_left l P) h2)
            obtain ⟨M, HM⟩ : ∃ M, RowKit.Hid (left l P = M) := ⟨_, Lib.hid rfl⟩
            rw [HM.out] at HTN HRT
            obtain rfl : P = 0 := by omega
            have hrd0 : Rd wr wr.heap.size none 0 (us M) := ⟨by rw [us_length, ← HM.out, left_length, HLB.out]; have := HNL.out; omega, fun h => by omega⟩
            have HRD := Lib.hid hrd0
            clear hrd0
            go_wp2_with fail
            refine (HRT.out _ _ _ HRD.out (by omega)).mono ?_
            rintro e w6 ⟨rfl, m6, hw6⟩
            have hg6 : wr.grownBy w6 none := by rw [hw6]; exact grown_drewN _ _
            have HI6 := Lib.hid (HI.out.still hg6)
            clear hg6 hw6 HI HRT
            go_wp2_with fail
            refine (take_any K g r ls w6 HI6.out.hc HI6.out.ra (by simp) HI6.out.kr (by omega)).mono ?_
            rintro e w7 ⟨rfl, hra, hg7⟩
            rw [HM.out] at hra ⊢
            rw [Nat.zero_add] at hra HTN
            have HI7 := Lib.hid (HI6.out.step hra hg7)
            clear hra hg7 HI6
            generalize tkS ls M = S at ⊢
            generalize tkE ls M = E at ⊢
            generalize tkN ls M = Q at HTN HI7 ⊢
            have hQb := HTN.out
            have g1 : ((S : Int) != (S : Int)) = false := by simp
            have g2 : ((E : Int) != (E : Int)) = false := by simp
            have g3 : ((Q : Int) != (Q : Int)) = false := by simp
            go_wp2_with fail
            refine (num_any E w7).mono ?_
            rintro e w8 ⟨rfl, rfl⟩
            go_wp2_with fail
            refine (at_any r w8 HI7.out.ra).mono ?_
            rintro e w9 ⟨rfl, rfl⟩
            by_cases hE : E = 0
            · have g4 : ((E : Int) != 0) = false := by rw [bne_eq_false_iff_eq]; omega
              clear hE
              go_wp2_with fail
              go_roundw
              case rel => exact ⟨j + 1, Q, by omega, rfl, by simp, HI7.out⟩
              case measure => simp [intOf]; omega
            · have g4 : ((E : Int) != 0) = true := by rw [bne_iff_ne]; omega
              clear hE
              go_wp2_with fail
              refine (htake_none _ w9).mono ?_
              rintro e wa ⟨rfl, rfl⟩
              go_wp2_with fail
              refine (is_same 4 wa).mono ?_
              rintro e wb ⟨rfl, rfl⟩
              go_wp2_with fail
              go_ret
              exact ⟨rfl, HI7.out.below⟩
          · obtain rfl : j = 20 := by omega
            have dj : decide (((20 : Nat) : Int) < 20) = false := rfl
            go_wp2_with fail
            refine (htake_none _ wr).mono ?_
            rintro e wa ⟨rfl, rfl⟩
            go_wp2_with fail
            refine (is_same 4 wa).mono ?_
            rintro e wb ⟨rfl, rfl⟩
            go_wp2_with fail
            go_ret
            exact ⟨rfl, HI.out.below⟩
    · subst hAb
      obtain ⟨P, hPe, hPL⟩ := skip_eq z nL
      go_wp2_with fail
      clear hPe
      go_loopw [60] (fun i wr => ∃ k : Nat, k ≤ P ∧ i = .int .i64 (k : Int) ∧ LT w wr K g p r n ls (some ⟨b, 0, none⟩) nL cL A5 n' c5 l k) (fun i _ => P - (intOf i).toNat)
      case atStart => exact ⟨0, by omega, rfl, HI.out⟩
      case round =>
        clear HI
        obtain ⟨k, hk, rfl, hI⟩ := hrel
        have HI := Lib.hid hI
        clear hI
        by_cases hkP : k < P
        · have dk : decide ((k : Int) < (P : Int)) = true := decide_eq_true (by omega)
          have HE : RowKit.Hid (bE n' k 1 = 0) := Lib.hid (b_ok (by omega) (by have := HNL.out; show ¬ 8 * n' < k + 1; omega))
          have HP : RowKit.Hid (bP n' k 1 = k + 1) := Lib.hid (by unfold bP; rw [HE.out, if_pos rfl]; rfl)
          go_wp2_with fail
          refine (rbits_any r 1 wr HI.out.ra (by simp) (by omega)).mono ?_
          rintro e w6 ⟨rfl, hra, hg6⟩
          rw [HE.out, show errV 0 = .nilIface from rfl]
          rw [HP.out] at hra
          have HI6 := Lib.hid (HI.out.step hra hg6)
          generalize bX (numL l) n' k 1 = bx
          clear hra hg6 HI
          go_wp2_with fail
          go_roundw
          case rel => exact ⟨k + 1, by omega, by simp, HI6.out⟩
          case measure => simp [intOf]; omega
        · obtain rfl : k = P := by omega
          have dk : decide ((k : Int) < (k : Int)) = false := decide_eq_false (by omega)
          go_wp2_with fail
          go_loopw [13, 70] (fun sk i wr => ∃ j P : Nat, j ≤ 20 ∧ sk = .int .i64 (P : Int) ∧ i = .int .i64 (j : Int) ∧ LT w wr K g p r n ls (some ⟨b, 0, none⟩) nL cL A5 n' c5 l P) (fun _ i _ => 20 - (intOf i).toNat)
          case atStart => exact ⟨0, k, by omega, rfl, rfl, HI.out⟩
          case round =>
            clear HI
            obtain ⟨j, P, hj, rfl, rfl, hI⟩ := hrel
            have HI := Lib.hid hI
            clear hI
            by_cases hj20 : j < 20
            · have dj : decide ((j : Int) < 20) = true := decide_eq_true (by omega)
              have hPn : P ≤ nL := by have := HI.out.ra.le; have := HNL.out; omega
              have hTb := HI.out.hc
              have HLO := Lib.hid (And.intro hTb.low hTb.ok)
              clear hTb
              have HTN : RowKit.Hid (P + tkN ls (left l P) ≤ 1000) := Lib.hid (by
                have h1 : tkN ls (left l P) ≤ 15 := by
                  unfold tkN
                  split
                  · exact lenAt_low HLO.out.1 _
                  · omega
                omega)
              have HRT : RowKit.Hid (∀ A m cc, Rd wr wr.heap.size A m (us (left l P)) → m ≤ 1000 → Calls Try.prog 18 #[.slice (some ⟨p, 0, none⟩) n n, .slice A m cc] wr fun e w' => e = .returned (.tuple #[.int .i64 (tkS ls (left l P) : Int), .int .i64 (tkN ls (left l P) : Int), .int .i64 (tkE ls (left l P) : Int)]) ∧ ∃ k, w' = wr.drewN k) :=
                Lib.hid (fun A m cc h1 h2 => rtake_any ls p n A m cc (left l P) wr HLO.out.1 HLO.out.2 HLL.out (by omega) HI.out.row h1 (bin_left l P) h2)
              obtain ⟨M, HM⟩ : ∃ M, RowKit.Hid (left l P = M) := ⟨_, Lib.hid rfl⟩
              rw [HM.out] at HTN HRT
              by_cases hcP : cL = P
              · have hM0 : Rd wr wr.heap.size (some ⟨b, 0, none⟩) 0 (us M) := ⟨by rw [us_length, ← HM.out, left_length, HLB.out]; have := HNL.out; omega, fun h => by omega⟩
                obtain rfl : nL = P := by omega
                subst hcP
                have HRD := Lib.hid hM0
                clear hM0
                go_wp2_with fail
                refine (HRT.out _ _ _ HRD.out (by omega)).mono ?_
                rintro e w6 ⟨rfl, m6, hw6⟩
                have hg6 : wr.grownBy w6 none := by rw [hw6]; exact grown_drewN _ _
                have HI6 := Lib.hid (HI.out.still hg6)
                clear hg6 hw6 HI HRT
                go_wp2_with fail
                refine (take_any K g r ls w6 HI6.out.hc HI6.out.ra (by simp) HI6.out.kr (by omega)).mono ?_
                rintro e w7 ⟨rfl, hra, hg7⟩
                rw [HM.out] at hra ⊢
                have HI7 := Lib.hid (HI6.out.step hra hg7)
                clear hra hg7 HI6
                obtain ⟨Q, hQ⟩ : ∃ Q, cL + tkN ls M = Q := ⟨_, rfl⟩
                rw [hQ] at HTN HI7
                generalize tkS ls M = S at ⊢
                generalize tkE ls M = E at ⊢
                generalize tkN ls M = N at hQ ⊢
                have hQb := HTN.out
                have hsum : (cL : Int) + (N : Int) = (Q : Int) := by omega
                clear hQ
                have g1 : ((S : Int) != (S : Int)) = false := by simp
                have g2 : ((E : Int) != (E : Int)) = false := by simp
                have g3 : ((Q : Int) != (Q : Int)) = false := by simp
                go_wp2_with fail
                refine (num_any E w7).mono ?_
                rintro e w8 ⟨rfl, rfl⟩
                go_wp2_with fail
                refine (at_any r w8 HI7.out.ra).mono ?_
                rintro e w9 ⟨rfl, rfl⟩
                by_cases hE : E = 0
                · have g4 : ((E : Int) != 0) = false := by rw [bne_eq_false_iff_eq]; omega
                  clear hE
                  go_wp2_with fail
                  go_roundw
                  case rel => exact ⟨j + 1, Q, by omega, rfl, by simp, HI7.out⟩
                  case measure => simp [intOf]; omega
                · have g4 : ((E : Int) != 0) = true := by rw [bne_iff_ne]; omega
                  clear hE
                  go_wp2_with fail
                  refine (htake_none _ w9).mono ?_
                  rintro e wa ⟨rfl, rfl⟩
                  go_wp2_with fail
                  refine (is_same 4 wa).mono ?_
                  rintro e wb ⟨rfl, rfl⟩
                  go_wp2_with fail
                  go_ret
                  exact ⟨rfl, HI7.out.below⟩
              · have HRD := Lib.hid (HI.out.part hPn)
                rw [HM.out] at HRD
                have hnP : nL - P ≤ 240 := by omega
                go_wp2_with fail
                refine (HRT.out _ _ _ (by simpa using HRD.out) (by omega)).mono ?_
                rintro e w6 ⟨rfl, m6, hw6⟩
                have hg6 : wr.grownBy w6 none := by rw [hw6]; exact grown_drewN _ _
                have HI6 := Lib.hid (HI.out.still hg6)
                clear hg6 hw6 HI HRT
                go_wp2_with fail
                refine (take_any K g r ls w6 HI6.out.hc HI6.out.ra (by simp) HI6.out.kr (by omega)).mono ?_
                rintro e w7 ⟨rfl, hra, hg7⟩
                rw [HM.out] at hra ⊢
                have HI7 := Lib.hid (HI6.out.step hra hg7)
                clear hra hg7 HI6
                obtain ⟨Q, hQ⟩ : ∃ Q, P + tkN ls M = Q := ⟨_, rfl⟩
                rw [hQ] at HTN HI7
                generalize tkS ls M = S at ⊢
                generalize tkE ls M = E at ⊢
                generalize tkN ls M = N at hQ ⊢
                have hQb := HTN.out
                have hsum : (P : Int) + (N : Int) = (Q : Int) := by omega
                clear hQ
                have g1 : ((S : Int) != (S : Int)) = false := by simp
                have g2 : ((E : Int) != (E : Int)) = false := by simp
                have g3 : ((Q : Int) != (Q : Int)) = false := by simp
                go_wp2_with fail
                refine (num_any E w7).mono ?_
                rintro e w8 ⟨rfl, rfl⟩
                go_wp2_with fail
                refine (at_any r w8 HI7.out.ra).mono ?_
                rintro e w9 ⟨rfl, rfl⟩
                by_cases hE : E = 0
                · have g4 : ((E : Int) != 0) = false := by rw [bne_eq_false_iff_eq]; omega
                  clear hE
                  go_wp2_with fail
                  go_roundw
                  case rel => exact ⟨j + 1, Q, by omega, rfl, by simp, HI7.out⟩
                  case measure => simp [intOf]; omega
                · have g4 : ((E : Int) != 0) = true := by rw [bne_iff_ne]; omega
                  clear hE
                  go_wp2_with fail
                  refine (htake_none _ w9).mono ?_
                  rintro e wa ⟨rfl, rfl⟩
                  go_wp2_with fail
                  refine (is_same 4 wa).mono ?_
                  rintro e wb ⟨rfl, rfl⟩
                  go_wp2_with fail
                  go_ret
                  exact ⟨rfl, HI7.out.below⟩
            · obtain rfl : j = 20 := by omega
              have dj : decide (((20 : Nat) : Int) < 20) = false := rfl
              go_wp2_with fail
              refine (htake_none _ wr).mono ?_
              rintro e wa ⟨rfl, rfl⟩
              go_wp2_with fail
              refine (is_same 4 wa).mono ?_
              rintro e wb ⟨rfl, rfl⟩
              go_wp2_with fail
              go_ret
              exact ⟨rfl, HI.out.below⟩
  · obtain rfl := hno hz
    obtain ⟨k, hk⟩ : ∃ k, newE L true = k + 1 := ⟨newE L true - 1, by omega⟩
    have HZ := Lib.hid hz
    have HK := Lib.hid hk
    rw [hk, show errV (k + 1) = .iface 52 (.int .i64 ((k + 1 : Nat) : Int)) from rfl]
    clear hno hyes hz hk
    go_wp2_with fail
    refine (rcodes_any A n c L true w2 (HR.out.next HB2.out) (by omega)).mono ?_
    rintro e w3 ⟨hb3, hno, _⟩
    obtain rfl := hno HZ.out
    have HB3 := Lib.hid (HB2.out.trans (hb3.mono HB2.out.size))
    clear hb3 hno
    obtain ⟨E, hE⟩ : ∃ E, newE L true = E := ⟨_, rfl⟩
    rw [hE]
    have h2 : ((E : Int) != 0) = true := by rw [bne_iff_ne]; have := HZ.out; omega
    clear hE
    go_wp2_with fail
    go_ret
    exact ⟨rfl, HB3.out⟩
theorem takes_all (A : Option Addr) (n c : Nat) (L : List Int) (A' : Option Addr) (n' c' : Nat) (l : List UInt8) (z : Int) (w : World) (hr : Rd w w.heap.size A n (is L)) (hA : A = none → c = 0) (hr' : Rd w w.heap.size A' n' (us l)) (hA' : A' = none → c' = 0) :
    Calls Try.prog 4 #[.slice A n c, .slice A' n' c', .int .i64 z] w fun e w' => e = .returned (.bool true) ∧ Below w.heap.size w w' := by
  rcases Nat.lt_or_ge 60 n with h | h
  · exact takes_long A n c A' n' c' z w (.inl h)
  · rcases Nat.lt_or_ge 30 n' with h' | h'
    · exact takes_long A n c A' n' c' z w (.inr h')
    · exact takes_any A n c L A' n' c' l z w hr hA hr' hA' h h'
end Go.Proofs.Ytfkbaagigdjbpaa
