/- Contract of the reference's Base. -/
import Derived.Test.YtpgpdckjnmpdoaaSign
import Derived.Test.YtpgpdckjnmpdoaaRefP
namespace Go.Proofs.Ytpgpdckjnmpdoaa
open Go.RowKit

/-- Two rows that grow: bytes and bits. -/
structure Duo (w : World) (v : Value) (lo : List UInt8) (u : Value) (lb : List Int) (wr : World) : Prop where
  own : Own wr w.heap.size v lo
  ownI : OwnI wr w.heap.size u lb
  below : Below w.heap.size w wr
  size : w.heap.size ≤ wr.heap.size

theorem Duo.put8 {w wr w' : World} {v v' u : Value} {lo lo' : List UInt8} {lb : List Int} (h : Duo w v lo u lb wr) (ho : Own w' w.heap.size v' lo') (hg : wr.grownBy w' v.ownBlock) : Duo w v' lo' u lb w' :=
  ⟨ho, World.ownsRow.kept h.ownI hg (own_ne' h.own h.ownI), h.own.grown hg h.below h.size, Nat.le_trans h.size hg.size⟩
theorem Duo.put64 {w wr w' : World} {v u u' : Value} {lo : List UInt8} {lb lb' : List Int} (h : Duo w v lo u lb wr) (ho : OwnI w' w.heap.size u' lb') (hg : wr.grownBy w' u.ownBlock) : Duo w v lo u' lb' w' :=
  ⟨World.ownsRow.kept h.own hg (own_ne h.own h.ownI), ho, h.ownI.grown hg h.below h.size, Nat.le_trans h.size hg.size⟩
theorem Duo.grows {w wr : World} {v u : Value} {lo : List UInt8} {lb : List Int} (h : Duo w v lo u lb wr) : Grows w v lo wr := ⟨h.own, h.below, h.size⟩

theorem OwnI.lit0 (w : World) (B : Nat) (hB : B ≤ w.heap.size) : OwnI (w.alloc (.cells #[] 3)) B (.slice (some ⟨w.heap.size, 0, none⟩) 0 0) [] :=
  ⟨rfl, .inr ⟨w.heap.size, 0, #[], rfl, hB, heap_alloc_new w _, Nat.le_refl _, by unfold maxLen; omega, rfl, rfl⟩⟩
theorem Duo.start {w wr : World} {v : Value} {lo : List UInt8} (h : Grows w v lo wr) : Duo w v lo (.slice (some ⟨wr.heap.size, 0, none⟩) 0 0) [] (wr.alloc (.cells #[] 3)) :=
  ⟨World.ownsRow.alloc h.own _, OwnI.lit0 wr _ h.size, h.below.alloc h.size _, by have := h.size; simp; omega⟩
theorem Grows.lit0 (w : World) : Grows w (.slice (some ⟨w.heap.size, 0, none⟩) 0 0) [] (w.alloc (.cells #[] 5)) :=
  ⟨Own.lit w #[] [] 0 rfl rfl (by decide), (Below.refl _ _).alloc (Nat.le_refl _) _, by simp⟩

def txt (way : Bool) (l : List UInt8) : List UInt8 := if way then urlL SU l else baseL SB l
theorem txt_append (way : Bool) (a b : List UInt8) (h : a.length % 3 = 0) : txt way (a ++ b) = txt way a ++ txt way b := by
  unfold txt
  cases way
  · exact baseL_append SB a b h
  · exact urlL_append SU a b h
theorem txt_length (way : Bool) (l : List UInt8) : (txt way l).length ≤ (l.length + 2) / 3 * 4 := by
  unfold txt
  cases way
  · exact Nat.le_of_eq (baseL_length SB l)
  · show (urlL SU l).length ≤ _
    rw [urlL_length]; omega

theorem OwnI.cell {w : World} {B g n c : Nat} {l : List Int} (h : OwnI w B (.slice (some ⟨g, 0, none⟩) n c) l) {k : Nat} {x : Int} (hx : l[k]? = some x) : w.cell? ⟨g, k, none⟩ = some (.int .i64 x) := by
  have := World.ownsRow.cells h (g := g) rfl k (.int .i64 x) (by simp [is, hx])
  rw [Go.WideShapes.add_plain] at this
  simpa using this

theorem txt_group (way : Bool) (grp : List UInt8) (cN : Nat) (h1 : 0 < grp.length) (h3 : grp.length ≤ 3) (hc : (encG (TS way) grp).length ≤ cN) (h4 : way = true → cN = (encG (TS way) grp).length) (h5 : way = false → cN = 4) :
    encG (TS way) grp ++ List.replicate (cN - (encG (TS way) grp).length) 61 = txt way grp := by
  have hl := encG_length (TS way) grp
  cases way
  · have h6 := h5 rfl
    subst h6
    show encG SB grp ++ List.replicate (4 - (encG SB grp).length) 61 = baseL SB grp
    have hl' : (encG SB grp).length = (grp.length * 8 + 5) / 6 := hl
    unfold baseL pad
    rw [signsL_enc, show (4 - (encG SB grp).length % 4) % 4 = 4 - (encG SB grp).length by omega]
  · rw [h4 rfl, Nat.sub_self]
    show encG SU grp ++ [] = urlL SU grp
    unfold urlL
    rw [signsL_enc, List.append_nil]

theorem and_bit (x : UInt8) (K : Nat) : bits .and .i64 ((x.toNat : Int) / 2 ^ K) 1 = bit x K := by
  have hx := x.toNat_lt
  have h1 : (x.toNat : Int) / 2 ^ K = ((x.toNat / 2 ^ K : Nat) : Int) := by
    rw [Int.natCast_ediv]; simp
  have h2 : x.toNat / 2 ^ K ≤ x.toNat := Nat.div_le_self _ _
  rw [h1]
  exact and_mask (x.toNat / 2 ^ K) 1 (x.toNat / 2 ^ K % 2) (by omega) (by omega) (nat_mask1 _)

set_option maxHeartbeats 1000000 in
set_option maxRecDepth 100000 in
theorem refbase_any (way : Bool) (A : Option Addr) (n c : Nat) (l : List UInt8) (w : World) (hr : Rd w w.heap.size A n (us l)) (hn : n ≤ 4000) :
    Calls Try.prog 11 #[.slice A n c, .bool way] w fun e w' => e = .returned (.string ⟨(txt way l).toArray⟩) ∧ Below w.heap.size w w' := by
  have hl : l.length = n := by have := hr.1; rwa [us_length] at this
  have HR := Lib.hid hr
  have HL := Lib.hid hl
  clear hr hl
  go_enter Try.func11, Try.ntmps11
  go_wp2_with fail
  have hG := Grows.lit0 w
  generalize (Value.slice (some ⟨w.heap.size, 0, none⟩) 0 0) = v0 at hG ⊢
  generalize w.alloc (.cells #[] 5) = w0 at hG ⊢
  go_loopw [5, 6] (fun v i wr => ∃ g : Nat, 3 * g < n + 3 ∧ i = .int .i64 (3 * (g : Int)) ∧ Grows w v (txt way (l.take (3 * g))) wr) (fun _ i _ => n + 3 - (intOf i).toNat)
  case atStart =>
    refine ⟨0, by omega, rfl, ?_⟩
    have : txt way (l.take (3 * 0)) = [] := List.eq_nil_of_length_eq_zero (by have := txt_length way (l.take (3 * 0)); simp at this; simp [this])
    rw [this]; exact hG
  case round =>
    clear hG
    obtain ⟨g, hg, rfl, hG⟩ := hrel
    by_cases hlt : 3 * g < n
    · have HG := Lib.hid hG
      clear hG
      have d0 : decide (3 * (g : Int) < (n : Int)) = true := by simp; omega
      go_wp2_with fail
      have hD := Duo.start HG.out
      clear HG
      generalize (Value.slice (some ⟨wr.heap.size, 0, none⟩) 0 0) = b0 at hD ⊢
      generalize wr.alloc (.cells #[] 3) = w1 at hD ⊢
      go_loopw [7, 8] (fun u k wr => ∃ q : Nat, q ≤ 3 ∧ 3 * g + q ≤ n ∧ k = .int .i64 (3 * (g : Int) + (q : Int)) ∧ Duo w u5 (txt way (l.take (3 * g))) u (bitsL ((l.drop (3 * g)).take q)) wr) (fun _ k _ => n - (intOf k).toNat)
      case atStart => exact ⟨0, by omega, by omega, by simp, hD⟩
      case round =>
        clear hD
        obtain ⟨q, hq, hqn, rfl, hD⟩ := hrel
        by_cases hin : q < 3 ∧ 3 * g + q < n
        · obtain ⟨hq3, hq4⟩ := hin
          obtain ⟨gb, off, x, rfl, hgb, hx, hc⟩ := (hD.grows.rd HR.out).at8 hq4
          have hx8 : x.toNat < 256 := x.toNat_lt
          have HX := Lib.hid hx
          have HD := Lib.hid hD
          clear hD hx hc hgb
          have d2 : decide (3 * (g : Int) + (q : Int) < (n : Int)) = true := by simp; omega
          go_wp2_with fail
          go_loopw [7, 9] (fun u j wr => ∃ J : Nat, J ≤ 8 ∧ j = .int .i64 ((J : Int) - 1) ∧ Duo w u5 (txt way (l.take (3 * g))) u (bitsL ((l.drop (3 * g)).take q) ++ topD x J) wr) (fun _ j _ => (intOf j + 1).toNat)
          case atStart => exact ⟨8, by omega, rfl, by rw [topD_all, List.append_nil]; exact HD.out⟩
          case round =>
            clear HD
            obtain ⟨J, hJ, rfl, hD⟩ := hrel
            by_cases hJ0 : 0 < J
            · obtain ⟨K, rfl⟩ : ∃ K, J = K + 1 := ⟨J - 1, by omega⟩
              obtain ⟨gb', off', x', he, _, hx', hc⟩ := (hD.grows.rd HR.out).at8 hq4
              have hxx : x' = x := by
                have := HX.out
                rw [hx'] at this
                injection this
              subst hxx
              injection he with he
              injection he with he1 he2
              subst he1 he2
              clear hx'
              have HD := Lib.hid hD
              clear hD hJ0
              have ej : ((K + 1 : Nat) : Int) - 1 = (K : Int) := by omega
              rw [ej]
              clear ej
              have hbit := and_bit x' K
              have hlo : (bitsL ((l.drop (3 * g)).take q) ++ topD x' (K + 1)).length + 1 ≤ 1000000 := by
                rw [List.length_append, bitsL_length, topD_length, List.length_take]; omega
              have HLO := Lib.hid hlo
              clear hlo
              go_wp2_with (at_builtin; refine push64 wr rfl (.tmp 39) (.tmp 48) rfl w.heap.size u7 (bitsL ((l.drop (3 * g)).take q) ++ topD x' (K + 1)) [bit x' K] _ 1 rfl rfl HD.out.ownI rfl rfl HD.out.size HLO.out ?_)
              intro v' w' ho hg'
              have hD := HD.out.put64 ho hg'
              clear ho hg' hbit
              go_wp2_with fail
              go_roundw
              case rel =>
                refine ⟨K, by omega, by go_num, ?_⟩
                rw [topD_step x' (by omega)]
                exact hD
              case measure => simp [intOf]
            · have hJ1 : J = 0 := by omega
              subst hJ1
              have HD := Lib.hid hD
              clear hD hJ0
              go_wp2_with fail
              go_roundw
              case rel =>
                refine ⟨q + 1, by omega, by omega, by go_num, ?_⟩
                rw [take_more (k := q) (x := x) (by rw [List.getElem?_drop]; exact HX.out), bitsL_snoc]
                exact HD.out
              case measure => simp [intOf]; omega
        · have hgrp : (l.drop (3 * g)).take q = (l.drop (3 * g)).take 3 := by
            by_cases h3 : q = 3
            · rw [h3]
            · rw [List.take_of_length_le (by rw [List.length_drop, HL.out]; omega), List.take_of_length_le (by rw [List.length_drop, HL.out]; omega)]
          rw [hgrp] at hD
          have hgl : 0 < ((l.drop (3 * g)).take 3).length ∧ ((l.drop (3 * g)).take 3).length ≤ 3 := by
            rw [List.length_take, List.length_drop, HL.out]; omega
          have htk : l.take (3 * (g + 1)) = l.take (3 * g) ++ (l.drop (3 * g)).take 3 := by
            rw [show 3 * (g + 1) = 3 * g + 3 by omega, List.take_add]
          have HTK := Lib.hid htk
          obtain ⟨grp, hgr⟩ : ∃ r, (l.drop (3 * g)).take 3 = r := ⟨_, rfl⟩
          rw [hgr] at hD hgl
          have HGR := Lib.hid hgr
          have HD := Lib.hid hD
          obtain ⟨hgl1, hgl2⟩ := hgl
          clear hgrp htk hgr hD
          have D1 : q = 3 → decide (3 * (g : Int) + (q : Int) < 3 * (g : Int) + 3) = false := by intro h; simp; omega
          have D2 : q < 3 → decide (3 * (g : Int) + (q : Int) < 3 * (g : Int) + 3) = true := by intro h; simp; omega
          have D3 : 3 * g + q = n → decide (3 * (g : Int) + (q : Int) < (n : Int)) = false := by intro h; simp; omega
          have HD1 := Lib.hid D1
          have HD2 := Lib.hid D2
          have HD3 := Lib.hid D3
          have hcase : q = 3 ∨ q < 3 ∧ 3 * g + q = n := by omega
          clear D1 D2 D3 hin
          rcases hcase with h3 | ⟨h3, h4⟩
          all_goals first | (have d1 := HD1.out h3; have h5 := Nat.le_of_eq h3.symm) | (have d1 := HD2.out h3; have d2 := HD3.out h4; have h5 := Nat.le_of_eq h4.symm; clear h4)
          all_goals clear h3 HD1 HD2 HD3
          all_goals go_wp2_with fail
          all_goals
            go_loopw [7] (fun u wr => ∃ lb : List Int, pad6 lb = pad6 (bitsL grp) ∧ Duo w u5 (txt way (l.take (3 * g))) u lb wr) (fun u _ => match u with | .slice _ n _ => (6 - n % 6) % 6 | _ => 0)
            case atStart => exact ⟨_, rfl, HD.out⟩
            case round =>
              clear HD
              obtain ⟨lb, hlb, hD⟩ := hrel
              have hll : lb.length ≤ 30 := by
                have h1 := pad6_length lb
                rw [hlb, pad6_length, bitsL_length] at h1
                omega
              obtain ⟨Ab, cb, rfl⟩ := hD.ownI.slice
              have HLB := Lib.hid hlb
              have HD := Lib.hid hD
              clear hlb hD
              by_cases h6 : lb.length % 6 = 0
              · have h6i : (((lb.length : Int) % 6) != 0) = false := by simp; omega
                have hpl : lb = pad6 (bitsL grp) := by rw [← HLB.out, pad6_done h6]
                have HPL := Lib.hid hpl
                have H6 := Lib.hid h6
                clear hpl h6
                go_wp2_with fail
                have hM := group_len (TS way) grp
                rw [← HPL.out] at hM
                have hM4 : (encG (TS way) grp).length ≤ 4 := by rw [encG_length]; omega
                have hM2 : 2 ≤ (encG (TS way) grp).length := by rw [encG_length]; omega
                obtain ⟨M, hMM⟩ : ∃ M, (encG (TS way) grp).length = M := ⟨_, rfl⟩
                rw [hMM] at hM hM4 hM2
                have hMa : lb.length ≤ 6 * M := Nat.le_of_eq hM
                have hMb : 6 * M ≤ lb.length := Nat.le_of_eq hM.symm
                have HMM := Lib.hid hMM
                have hbits : Bits lb := by rw [HPL.out]; exact bits_pad6 (bits_bitsL grp)
                have HBT := Lib.hid hbits
                have hTl : (txt way (l.take (3 * g))).length ≤ 8000 := by
                  have := txt_length way (l.take (3 * g))
                  rw [List.length_take] at this
                  omega
                obtain ⟨T0, hT0⟩ : ∃ t, txt way (l.take (3 * g)) = t := ⟨_, rfl⟩
                rw [hT0] at HD hTl
                have HT0 := Lib.hid hT0
                clear hM hMM hbits hT0
                go_loopw [5, 10, 11] (fun v cnt k wr => ∃ m : Nat, m ≤ M ∧ cnt = .int .i64 m ∧ k = .int .i64 (6 * (m : Int)) ∧ Duo w v (T0 ++ (encG (TS way) grp).take m) (.slice Ab lb.length cb) lb wr) (fun _ _ k _ => 24 - (intOf k).toNat)
                case atStart => exact ⟨0, by omega, rfl, rfl, by simpa using HD.out⟩
                case round =>
                  clear HD
                  obtain ⟨m, hm, rfl, rfl, hD⟩ := hrel
                  by_cases hmM : m < M
                  · obtain ⟨gI, cI, xI, hsl, _, _⟩ := hD.ownI.at64 (k := 6 * m) (by omega)
                    injection hsl with hs1 hs2 hs3
                    subst hs1 hs3
                    have HD := Lib.hid hD
                    clear hD hs2
                    have d6 : decide (6 * (m : Int) < (lb.length : Int)) = true := by simp; omega
                    go_wp2_with fail
                    go_loop [12, 13] (fun vv j => ∃ J : Nat, J ≤ 6 ∧ j = .int .i64 J ∧ vv = .int .i64 (cv lb (6 * m) J : Nat)) (fun _ j => 6 - (intOf j).toNat)
                    case atStart => exact ⟨0, by omega, rfl, rfl⟩
                    case round =>
                      obtain ⟨J, hJ, rfl, rfl⟩ := hrel
                      by_cases hJ6 : J < 6
                      · have hlen : 6 * m + J < lb.length := by omega
                        obtain ⟨xv, hxv⟩ : ∃ x, lb[6 * m + J]? = some x := ⟨_, List.getElem?_eq_getElem hlen⟩
                        have hc := HD.out.ownI.cell hxv
                        have hxb : 0 ≤ xv ∧ xv ≤ 1 := HBT.out _ (List.mem_of_getElem? hxv)
                        have hcs : cv lb (6 * m) (J + 1) = cv lb (6 * m) J * 2 + xv.toNat := by
                          rw [cv, List.getD, hxv]; rfl
                        have hcl : cv lb (6 * m) J < 64 := by
                          have h1 := cv_lt HBT.out (6 * m) J
                          have h2 : 2 ^ J ≤ 2 ^ 6 := Nat.pow_le_pow_right (by decide) (by omega)
                          omega
                        obtain ⟨hx0, hx1⟩ := hxb
                        obtain ⟨C, hC⟩ : ∃ C, cv lb (6 * m) J = C := ⟨_, rfl⟩
                        rw [hC] at hcs hcl ⊢
                        have HCS := Lib.hid hcs
                        clear hcs hC hxv
                        go_wp2_with fail
                        go_round
                        case rel => exact ⟨J + 1, by omega, by go_num, by rw [HCS.out]; go_num⟩
                        case measure => simp [intOf]; omega
                      · have hJe : J = 6 := by omega
                        subst hJe
                        have hcl := cv_lt HBT.out (6 * m) 6
                        have hgs := group_signs (TS way) grp hgl1 hgl2 m (by rw [HMM.out]; exact hmM)
                        rw [← HPL.out] at hgs
                        obtain ⟨C, hC⟩ : ∃ C, cv lb (6 * m) 6 = C := ⟨_, rfl⟩
                        rw [hC] at hcl hgs ⊢
                        have HGS := Lib.hid hgs
                        clear hC hgs hJ6
                        have hcl' : C < 64 := hcl
                        clear hcl
                        have hlo : (T0 ++ (encG (TS way) grp).take m).length + 1 ≤ 1000000 := by
                          rw [List.length_append, List.length_take, HMM.out]; omega
                        have HLO := Lib.hid hlo
                        clear hlo
                        go_wp2_with fail
                        refine (sign_any C way wr hcl').mono ?_
                        rintro e w' ⟨rfl, rfl⟩
                        go_wp2_with (at_builtin; refine push8 wr rfl (.tmp 76) (.tmp 80) rfl w.heap.size _ (T0 ++ (encG (TS way) grp).take m) [sg (TS way) C] _ 1 rfl rfl HD.out.own rfl rfl HD.out.size HLO.out ?_)
                        intro v' w' ho hg'
                        have hD := HD.out.put8 ho hg'
                        rw [← take_more HGS.out] at hD
                        clear ho hg'
                        have HD2 := Lib.hid hD
                        clear hD
                        go_wp2_with fail
                        go_roundw
                        case rel => exact ⟨m + 1, by omega, by go_num, by go_num, HD2.out⟩
                        case measure => simp [intOf]; omega
                  · have hme : m = M := by omega
                    subst hme
                    have hG := hD.grows
                    rw [List.take_of_length_le (by rw [HMM.out]; exact Nat.le_refl _)] at hG
                    have HG := Lib.hid hG
                    clear hD hG
                    have d6 : decide (6 * (m : Int) < (lb.length : Int)) = false := by simp; omega
                    go_wp2_with fail
                    go_loopw [5, 10] (fun v cnt wr => ∃ cN : Nat, m ≤ cN ∧ cN ≤ 4 ∧ (way = true → cN = m) ∧ cnt = .int .i64 cN ∧ Grows w v (T0 ++ (encG (TS way) grp ++ List.replicate (cN - m) 61)) wr) (fun _ cnt _ => 4 - (intOf cnt).toNat)
                    case atStart => exact ⟨m, by omega, by omega, fun _ => rfl, rfl, by rw [Nat.sub_self]; simpa using HG.out⟩
                    case round =>
                      clear HG
                      obtain ⟨cN, hcm, hc4, hcw, rfl, hG⟩ := hrel
                      have HCW := Lib.hid hcw
                      have HG := Lib.hid hG
                      clear hcw hG
                      have hend : (way = false → cN = 4) → Grows w u5 (txt way (l.take (3 * (g + 1)))) wr := by
                        intro hw
                        have htg := txt_group way grp cN hgl1 hgl2 (by rw [HMM.out]; exact hcm) (by rw [HMM.out]; exact HCW.out) hw
                        rw [HMM.out] at htg
                        rw [HTK.out, HGR.out, txt_append way _ _ (by rw [List.length_take, HL.out]; omega), HT0.out, ← htg]
                        exact HG.out
                      have HEND := Lib.hid hend
                      clear hend
                      have hlo : (T0 ++ (encG (TS way) grp ++ List.replicate (cN - m) 61)).length + 1 ≤ 1000000 := by
                        rw [List.length_append, List.length_append, List.length_replicate, HMM.out]; omega
                      have HLO := Lib.hid hlo
                      clear hlo
                      by_cases h4 : cN < 4
                      · have d4 : decide ((cN : Int) < 4) = true := by simp; omega
                        cases way
                        · go_wp2_with (at_builtin; refine push8 wr rfl (.tmp 92) (.tmp 93) rfl w.heap.size _ (T0 ++ (encG (TS false) grp ++ List.replicate (cN - m) 61)) [61] _ 1 rfl rfl HG.out.own rfl rfl HG.out.size HLO.out ?_)
                          intro v' w' ho hg'
                          have hG := HG.out.push ho hg'
                          clear ho hg'
                          go_wp2_with fail
                          go_roundw
                          case rel =>
                            refine ⟨cN + 1, by omega, by omega, (fun h => by cases h), by go_num, ?_⟩
                            rw [show cN + 1 - m = (cN - m) + 1 by omega, List.replicate_succ']
                            simpa [List.append_assoc] using hG
                          case measure => simp [intOf]; omega
                        · go_wp2_with fail
                          go_roundw
                          case rel => exact ⟨g + 1, by omega, by go_num, HEND.out (fun h => by cases h)⟩
                          case measure => simp [intOf]; omega
                      · have d4 : decide ((cN : Int) < 4) = false := by simp; omega
                        go_wp2_with fail
                        go_roundw
                        case rel => exact ⟨g + 1, by omega, by go_num, HEND.out (fun _ => by omega)⟩
                        case measure => simp [intOf]; omega
              · have h6i : (((lb.length : Int) % 6) != 0) = true := by simp; omega
                have H6 := Lib.hid h6
                clear h6
                go_wp2_with (at_builtin; refine push64 wr rfl (.tmp 54) (.tmp 55) rfl w.heap.size _ lb [0] _ 1 rfl rfl HD.out.ownI rfl rfl HD.out.size (by omega) ?_)
                intro v' w' ho hg'
                have hD := HD.out.put64 ho hg'
                clear ho hg'
                obtain ⟨A2, c2, rfl⟩ := hD.ownI.slice
                have HD2 := Lib.hid hD
                clear hD
                go_wp2_with fail
                go_roundw
                case rel => exact ⟨lb ++ [0], by rw [pad6_more H6.out]; exact HLB.out, HD2.out⟩
                case measure =>
                  have := H6.out
                  simp
                  omega
    · rw [List.take_of_length_le (by rw [HL.out]; omega)] at hG
      obtain ⟨A', c', rfl⟩ := hG.own.slice
      have hst := str8 wr _ A' _ c' _ hG.own.rd.2
      have HG := Lib.hid hG
      clear hG
      go_wp2_with fail
      go_ret
      exact ⟨rfl, HG.out.below⟩
end Go.Proofs.Ytpgpdckjnmpdoaa
