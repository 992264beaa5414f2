/- Contract of the reference's Unbase. -/
import Derived.Test.YtpgpdckjnmpdoaaRefU
import Derived.Deep.QuietTactic
import Derived.BigQuiet
namespace Go.Proofs.Ytpgpdckjnmpdoaa
open Go.RowKit

structure GrowsI (w : World) (u : Value) (lb : List Int) (wr : World) : Prop where
  own : OwnI wr w.heap.size u lb
  below : Below w.heap.size w wr
  size : w.heap.size ≤ wr.heap.size
theorem GrowsI.push {w wr w' : World} {u u' : Value} {l l' : List Int} (h : GrowsI w u l wr) (ho : OwnI w' w.heap.size u' l') (hg : wr.grownBy w' u.ownBlock) : GrowsI w u' l' w' :=
  ⟨ho, h.own.grown hg h.below h.size, Nat.le_trans h.size hg.size⟩
theorem GrowsI.lit0 (w : World) : GrowsI w (.slice (some ⟨w.heap.size, 0, none⟩) 0 0) [] (w.alloc (.cells #[] 3)) :=
  ⟨OwnI.lit0 w _ (Nat.le_refl _), (Below.refl _ _).alloc (Nat.le_refl _) _, by simp⟩
theorem GrowsI.drewN {w wr : World} {u : Value} {l : List Int} (h : GrowsI w u l wr) (n : Nat) : GrowsI w u l (wr.drewN n) :=
  ⟨h.own, ⟨h.below.os, h.below.tape, h.below.output, h.below.size, h.below.block⟩, h.size⟩
theorem Own.lit0 (w : World) (B : Nat) (hB : B ≤ w.heap.size) : Own (w.alloc (.cells #[] 5)) B (.slice (some ⟨w.heap.size, 0, none⟩) 0 0) [] :=
  ⟨rfl, .inr ⟨w.heap.size, 0, #[], rfl, hB, heap_alloc_new w _, Nat.le_refl _, by unfold maxLen; omega, rfl, rfl⟩⟩
theorem GrowsI.duo {w wr : World} {u : Value} {l : List Int} (h : GrowsI w u l wr) : Duo w (.slice (some ⟨wr.heap.size, 0, none⟩) 0 0) [] u l (wr.alloc (.cells #[] 5)) :=
  ⟨Own.lit0 wr _ h.size, World.ownsRow.alloc h.own _, h.below.alloc h.size _, by have := h.size; simp; omega⟩

theorem sign_q (i : Nat) (way : Bool) (w : World) (hi : i < 64) {y : UInt8} (hy : sg (TS way) i = y) : Calls Try.prog 21 #[.int .i64 (i : Int), .bool way] w fun e w' => e = .returned (.int .u8 (y.toNat : Int)) ∧ w' = w :=
  (sign_any i way w hi).mono fun e w' ⟨h1, h2⟩ => ⟨by rw [h1, hy], h2.symm⟩

theorem goodTS (way : Bool) : Good (TS way) 64 := by cases way; exact goodSB; exact goodSU

/-- What the search for a sign has found behind t tries. -/
def found (S : ByteArray) (b : UInt8) (t : Nat) : Int :=
  match val S b with
  | some m => if m < t then (m : Int) else -1
  | none => -1
theorem found_yes {S : ByteArray} {b : UInt8} {t : Nat} (h : val S b = some t) : found S b (t + 1) = (t : Int) := by
  unfold found; rw [h]; simp
theorem found_no {S : ByteArray} {b : UInt8} {t : Nat} (h : val S b ≠ some t) : found S b (t + 1) = found S b t := by
  unfold found
  cases hv : val S b with
  | none => rfl
  | some m =>
    rw [hv] at h
    have : m ≠ t := fun e => h (by rw [e])
    simp only
    by_cases h1 : m < t
    · rw [if_pos h1, if_pos (by omega)]
    · rw [if_neg h1, if_neg (by omega)]
theorem found_start (S : ByteArray) (b : UInt8) : found S b 0 = -1 := by
  unfold found; split <;> simp

theorem ahead_at : ∀ (s : List UInt8) (k : Nat), k < (ahead s).length → ∃ b, s[k]? = some b ∧ (ahead s)[k]? = some b ∧ b ≠ 61
  | [], k, h => by simp [ahead] at h
  | x :: s, k, h => by
    by_cases hx : x = 61
    · subst hx; simp [ahead] at h
    · have e : ahead (x :: s) = x :: ahead s := by simp [ahead, hx]
      rw [e] at h ⊢
      cases k with
      | zero => exact ⟨x, rfl, rfl, hx⟩
      | succ k =>
        obtain ⟨b, h1, h2, h3⟩ := ahead_at s k (by simpa using h)
        exact ⟨b, by simpa using h1, by simpa using h2, h3⟩

theorem ahead_end (s : List UInt8) : (ahead s).length ≤ s.length ∧ ((ahead s).length = s.length ∨ s[(ahead s).length]? = some 61) := by
  induction s with
  | nil => simp [ahead]
  | cons x s ih =>
    by_cases hx : x = 61
    · subst hx; simp [ahead]
    · have : ahead (x :: s) = x :: ahead s := by simp [ahead, hx]
      rw [this]
      simp only [List.length_cons, List.getElem?_cons_succ]
      refine ⟨by omega, ?_⟩
      rcases ih.2 with h | h
      · left; omega
      · right; exact h

theorem and_bit6 (m K : Nat) (hm : m < 64) : bits .and .i64 ((m : Int) / 2 ^ K) 1 = bit6 m K := by
  have h1 : (m : Int) / 2 ^ K = ((m / 2 ^ K : Nat) : Int) := by
    rw [Int.natCast_ediv]; simp
  have h2 : m / 2 ^ K ≤ m := Nat.div_le_self _ _
  rw [h1]
  exact and_mask (m / 2 ^ K) 1 (m / 2 ^ K % 2) (by omega) (by omega) (nat_mask1 _)

theorem bits_top6 (v J : Nat) : Bits (top6 v J) := by
  intro y hy
  simp only [top6, List.mem_map] at hy
  obtain ⟨i, _, rfl⟩ := hy
  unfold bit6
  omega

theorem eights_snoc {P : List Int} {m : Nat} (h : 8 * m + 8 ≤ P.length) : (eights P)[m]? = some (UInt8.ofNat (cv P (8 * m) 8)) := by
  unfold eights
  rw [List.getElem?_map, List.getElem?_range (by omega)]; rfl
theorem eights_length (P : List Int) : (eights P).length = P.length / 8 := by simp [eights]

set_option maxHeartbeats 1000000 in
set_option maxRecDepth 100000 in
theorem refunbase_any (way : Bool) (s : ByteArray) (w : World) (hs0 : s.size ≤ 400) : Calls Try.prog 17 #[.string s, .bool way] w (Got2 w (refUn (TS way) (txt way) s.data.toList)) := by
  have hlen : s.data.toList.length = s.size := by simp
  have hae := ahead_end s.data.toList
  rw [hlen] at hae
  have hal : (ahead s.data.toList).length ≤ 400 := by omega
  obtain ⟨N, hN⟩ : ∃ N, (ahead s.data.toList).length = N := ⟨_, rfl⟩
  rw [hN] at hae hal
  obtain ⟨hae1, hae2⟩ := hae
  have HLN := Lib.hid hlen
  have HN := Lib.hid hN
  have HAE := Lib.hid hae2
  clear hlen hN hae2
  go_enter Try.func17, Try.ntmps17
  go_wp2_with fail
  have hG := GrowsI.lit0 w
  generalize (Value.slice (some ⟨w.heap.size, 0, none⟩) 0 0) = v0 at hG ⊢
  generalize w.alloc (.cells #[] 3) = w0 at hG ⊢
  go_loopw [6, 7] (fun u i wr => ∃ (k : Nat) (P : List Int), k ≤ N ∧ i = .int .i64 k ∧ (sixes (TS way) ((ahead s.data.toList).drop k)).map (P ++ ·) = sixes (TS way) (ahead s.data.toList) ∧ P.length ≤ 6 * k ∧ Bits P ∧ GrowsI w u P wr) (fun _ i _ => N - (intOf i).toNat)
  case atStart => exact ⟨0, [], by omega, rfl, by simp, by simp, (fun x hx => by cases hx), hG⟩
  case round =>
    clear hG
    obtain ⟨k, P, hk, rfl, hsx, hPl, hbt, hG⟩ := hrel
    have HSX := Lib.hid hsx
    have HBT := Lib.hid hbt
    have HG := Lib.hid hG
    clear hG hsx hbt
    by_cases hlt : k < N
    · obtain ⟨b, hb1, hb2, hb3⟩ := ahead_at s.data.toList k (by rw [HN.out]; exact hlt)
      have hks : k < s.size := by omega
      have hxs : s[k] = b := by
        have := (List.getElem?_eq_some_iff.1 hb1).2
        rw [← this]; rfl
      have hne : ((b.toNat : Int) != 61) = true := by
        simp only [bne_iff_ne, ne_eq]
        intro h
        apply hb3
        apply UInt8.toNat_inj.1
        have : b.toNat = 61 := by omega
        rw [this]; rfl
      have HB2 := Lib.hid hb2
      clear hb1 hb2 hb3
      have d0 : decide ((k : Int) < (s.size : Int)) = true := by simp; omega
      go_wp2_with fail
      go_loopw [8, 9] (fun v n wr => ∃ t : Nat, t ≤ 64 ∧ n = .int .i64 t ∧ v = .int .i64 (found (TS way) b t) ∧ GrowsI w u6 P wr) (fun _ n _ => 64 - (intOf n).toNat)
      case atStart => exact ⟨0, by omega, rfl, by rw [found_start], HG.out⟩
      case round =>
        clear HG
        obtain ⟨t, ht, rfl, rfl, hG⟩ := hrel
        have HG := Lib.hid hG
        clear hG
        by_cases ht2 : t < 64
        · obtain ⟨y, hy⟩ : ∃ y, sg (TS way) t = y := ⟨_, rfl⟩
          have HY := Lib.hid hy
          have hvy := (goodTS way).there t ht2
          rw [hy] at hvy
          have HVY := Lib.hid hvy
          clear hy hvy
          have d1 : decide ((t : Int) < 64) = true := by simp; omega
          by_cases hyb : y = b
          · subst hyb
            have hcm : (((y.toNat : Int)) == (y.toNat : Int)) = true := by simp
            go_wp2_with fail
            go_quiet ((go_at_call 21; exact Calls.quiet_of_same (sign_q t way _ ht2 HY.out)))
            go_wp2_with fail
            go_roundw
            case rel => exact ⟨t + 1, by omega, by go_num, by rw [found_yes HVY.out], HG.out.drewN _⟩
            case measure => simp [intOf]; omega
          · have hcm : (((y.toNat : Int)) == (b.toNat : Int)) = false := by
              simp only [beq_eq_false_iff_ne, ne_eq]
              intro h
              apply hyb
              apply UInt8.toNat_inj.1
              omega
            have hnv : val (TS way) b ≠ some t := by
              intro h
              apply hyb
              rw [← HY.out]
              exact (goodTS way).back b t h
            have HNV := Lib.hid hnv
            clear hnv hyb
            go_wp2_with fail
            go_quiet ((go_at_call 21; exact Calls.quiet_of_same (sign_q t way _ ht2 HY.out)))
            go_wp2_with fail
            go_roundw
            case rel => exact ⟨t + 1, by omega, by go_num, by rw [found_no HNV.out], HG.out.drewN _⟩
            case measure => simp [intOf]; omega
        · have ht3 : t = 64 := by omega
          subst ht3
          clear ht2 ht
          rw [show ((64 : Nat) : Int) = 64 from rfl]
          cases hv : val (TS way) b with
          | none =>
            have hf : found (TS way) b 64 = -1 := by unfold found; rw [hv]
            have hrn : refUn (TS way) (txt way) s.data.toList = none := by
              unfold refUn
              rw [← HSX.out, drop_more HB2.out, sixes_none _ hv]
              rfl
            have HRN := Lib.hid hrn
            clear hrn hv
            rw [hf]
            clear hf
            go_wp2_with fail
            go_ret2
            exact Got2.mk_none HRN.out HG.out.below
          | some m =>
            have hm : m < 64 := by have := val_lt hv; rw [(goodTS way).size] at this; exact this
            have hf : found (TS way) b 64 = (m : Int) := by unfold found; rw [hv]; simp [hm]
            have HV := Lib.hid hv
            rw [hf]
            clear hf hv
            have d4 : decide ((m : Int) < 0) = false := by simp
            go_wp2_with fail
            go_loopw [6, 10] (fun u j wr => ∃ J : Nat, J ≤ 6 ∧ j = .int .i64 ((J : Int) - 1) ∧ GrowsI w u (P ++ top6 m J) wr) (fun _ j _ => (intOf j + 1).toNat)
            case atStart => exact ⟨6, by omega, rfl, by rw [top6_all, List.append_nil]; exact HG.out⟩
            case round =>
              clear HG
              obtain ⟨J, hJ, rfl, hG⟩ := hrel
              have HG := Lib.hid hG
              clear hG
              by_cases hJ0 : 0 < J
              · obtain ⟨K, rfl⟩ : ∃ K, J = K + 1 := ⟨J - 1, by omega⟩
                clear hJ0
                have ej : ((K + 1 : Nat) : Int) - 1 = (K : Int) := by omega
                rw [ej]
                clear ej
                have hbit := and_bit6 m K hm
                have hlo : (P ++ top6 m (K + 1)).length + 1 ≤ 1000000 := by
                  rw [List.length_append, top6_length]; omega
                have HLO := Lib.hid hlo
                clear hlo
                go_wp2_with (at_builtin; refine push64 wr rfl (.tmp 46) (.tmp 51) rfl w.heap.size u6 (P ++ top6 m (K + 1)) [bit6 m K] _ 1 rfl rfl HG.out.own rfl rfl HG.out.size HLO.out ?_)
                intro v' w' ho hg'
                have hG := HG.out.push ho hg'
                clear ho hg' hbit
                have HG2 := Lib.hid hG
                clear hG
                go_wp2_with fail
                go_roundw
                case rel =>
                  refine ⟨K, by omega, by go_num, ?_⟩
                  rw [top6_step m (by omega)]
                  simpa using HG2.out
                case measure => simp [intOf]
              · have hJ1 : J = 0 := by omega
                subst hJ1
                clear hJ0
                have hnx : (sixes (TS way) ((ahead s.data.toList).drop (k + 1))).map ((P ++ top6 m 0) ++ ·) = sixes (TS way) (ahead s.data.toList) := by
                  rw [← HSX.out, drop_more HB2.out, sixes_val _ HV.out]
                  simp only [Option.map_map]
                  congr 1
                  funext r
                  simp
                have HNX := Lib.hid hnx
                clear hnx
                have hPl2 : (P ++ top6 m 0).length ≤ 6 * (k + 1) := by rw [List.length_append, top6_length]; omega
                go_wp2_with fail
                go_roundw
                case rel => exact ⟨k + 1, _, by omega, by go_num, HNX.out, hPl2, HBT.out.append (bits_top6 m 0), HG.out⟩
                case measure => simp [intOf]; omega
    · have hkN : k = N := by omega
      have hP : sixes (TS way) (ahead s.data.toList) = some P := by
        rw [← HSX.out, List.drop_of_length_le (by rw [HN.out]; omega)]
        simp [sixes]
      have hru : refUn (TS way) (txt way) s.data.toList = if txt way (eights P) = s.data.toList then some (eights P) else none := by
        unfold refUn; rw [hP]
      have HRU := Lib.hid hru
      clear hP hru hlt
      subst hkN
      have hcase : k = s.size ∨ (k < s.size ∧ s.data.toList[k]? = some 61) := by
        rcases HAE.out with h | h
        · exact .inl h
        · refine .inr ⟨?_, h⟩
          have := (List.getElem?_eq_some_iff.1 h).1
          rw [HLN.out] at this
          exact this
      have D1 : k = s.size → decide ((k : Int) < (s.size : Int)) = false := by intro h; simp; omega
      have D2 : k < s.size → decide ((k : Int) < (s.size : Int)) = true := by intro h; simp; omega
      have D3 : s.data.toList[k]? = some 61 → ∀ h : k < s.size, s[k] = 61 := by
        intro h hk
        have := (List.getElem?_eq_some_iff.1 h).2
        rw [← this]; rfl
      have HD1 := Lib.hid D1
      have HD2 := Lib.hid D2
      have HD3 := Lib.hid D3
      clear D1 D2 D3 HSX HAE HN
      rcases hcase with h | ⟨h, h61⟩
      all_goals first | (have d1 := HD1.out h; have h5 := Nat.le_of_eq h.symm; clear h) | (have d1 := HD2.out h; have d2 := HD3.out h61 h; clear h61)
      all_goals clear HD1 HD2 HD3
      all_goals go_wp2_with fail
      all_goals
        have hD := HG.out.duo
        generalize (Value.slice (some ⟨wr.heap.size, 0, none⟩) 0 0) = b0 at hD ⊢
        generalize wr.alloc (.cells #[] 5) = w1 at hD ⊢
        clear HG
        have hPl3 : P.length ≤ 2400 := by omega
        obtain ⟨Ap, cp, rfl⟩ := hD.ownI.slice
        go_loopw [11, 12] (fun v i wr => ∃ m : Nat, 8 * m ≤ P.length ∧ i = .int .i64 (8 * (m : Int)) ∧ Duo w v ((eights P).take m) (.slice Ap P.length cp) P wr) (fun _ i _ => P.length - (intOf i).toNat)
        case atStart => exact ⟨0, by omega, rfl, by simpa using hD⟩
        case round =>
          clear hD
          obtain ⟨m, hm, rfl, hD⟩ := hrel
          by_cases hmM : 8 * m + 8 ≤ P.length
          · obtain ⟨gI, cI, xI, hsl, _, _⟩ := hD.ownI.at64 (k := 8 * m) (by omega)
            injection hsl with hs1 hs2 hs3
            subst hs1 hs3
            have HD := Lib.hid hD
            clear hD hs2
            have d6 : decide (8 * (m : Int) + 8 ≤ (P.length : Int)) = true := by simp; omega
            go_wp2_with fail
            go_loop [13, 14] (fun vv j => ∃ J : Nat, J ≤ 8 ∧ j = .int .i64 J ∧ vv = .int .i64 (cv P (8 * m) J : Nat)) (fun _ j => 8 - (intOf j).toNat)
            case atStart => exact ⟨0, by omega, rfl, rfl⟩
            case round =>
              obtain ⟨J, hJ, rfl, rfl⟩ := hrel
              by_cases hJ6 : J < 8
              · have hlen : 8 * m + J < P.length := by omega
                obtain ⟨xv, hxv⟩ : ∃ x, P[8 * m + J]? = some x := ⟨_, List.getElem?_eq_getElem hlen⟩
                have hc := HD.out.ownI.cell hxv
                have hxb : 0 ≤ xv ∧ xv ≤ 1 := HBT.out _ (List.mem_of_getElem? hxv)
                have hcs : cv P (8 * m) (J + 1) = cv P (8 * m) J * 2 + xv.toNat := by
                  rw [cv, List.getD, hxv]; rfl
                have hcl : cv P (8 * m) J < 256 := by
                  have h1 := cv_lt HBT.out (8 * m) J
                  have h2 : 2 ^ J ≤ 2 ^ 8 := Nat.pow_le_pow_right (by decide) (by omega)
                  omega
                obtain ⟨hx0, hx1⟩ := hxb
                obtain ⟨C, hC⟩ : ∃ C, cv P (8 * m) J = C := ⟨_, rfl⟩
                rw [hC] at hcs hcl ⊢
                have HCS := Lib.hid hcs
                clear hcs hC hxv
                go_wp2_with fail
                go_round
                case rel => exact ⟨J + 1, by omega, by go_num, by rw [HCS.out]; go_num⟩
                case measure => simp [intOf]; omega
              · have hJe : J = 8 := by omega
                subst hJe
                rw [show ((8 : Nat) : Int) = 8 from rfl]
                have hcl := cv_lt HBT.out (8 * m) 8
                have hgs := eights_snoc hmM
                obtain ⟨C, hC⟩ : ∃ C, cv P (8 * m) 8 = C := ⟨_, rfl⟩
                rw [hC] at hcl hgs ⊢
                obtain ⟨y, hy⟩ : ∃ y, UInt8.ofNat C = y := ⟨_, rfl⟩
                rw [hy] at hgs
                have HGS := Lib.hid hgs
                have HY := Lib.hid hy
                clear hC hgs hJ6 hy
                have hcl' : C < 256 := hcl
                clear hcl
                have hlo : ((eights P).take m).length + 1 ≤ 1000000 := by
                  rw [List.length_take, eights_length]; omega
                have HLO := Lib.hid hlo
                clear hlo
                go_wp2_with (at_builtin; refine push8 wr rfl (.tmp 74) (.tmp 77) rfl w.heap.size _ ((eights P).take m) [y] _ 1 rfl rfl HD.out.own (byte_named HY.out (by omega) (by omega)) rfl HD.out.size HLO.out ?_)
                intro v' w' ho hg'
                have hD := HD.out.put8 ho hg'
                rw [← take_more HGS.out] at hD
                clear ho hg'
                have HD2 := Lib.hid hD
                clear hD
                go_wp2_with fail
                go_roundw
                case rel => exact ⟨m + 1, by omega, by go_num, HD2.out⟩
                case measure => simp [intOf]; omega
          · have hG := hD.grows
            rw [List.take_of_length_le (by rw [eights_length]; omega)] at hG
            have hel : (eights P).length ≤ 300 := by rw [eights_length]; omega
            obtain ⟨o, ho⟩ : ∃ o, eights P = o := ⟨_, rfl⟩
            rw [ho] at hG hel HRU
            clear ho hD
            obtain ⟨A', c', rfl⟩ := hG.own.slice
            have HRD := Lib.hid hG.own.rd.2
            have HG := Lib.hid hG
            clear hG
            have d6 : decide (8 * (m : Int) + 8 ≤ (P.length : Int)) = false := by simp; omega
            obtain ⟨T, hT⟩ : ∃ T : ByteArray, (⟨(txt way o).toArray⟩ : ByteArray) = T := ⟨_, rfl⟩
            have htl : T.toList = txt way o := by rw [← hT, ByteArray.toList_eq]
            have HT := Lib.hid hT
            have HTL := Lib.hid htl
            clear hT htl
            go_wp2_with fail
            refine (refbase_any way A' o.length c' o wr HRD.out (by omega)).mono ?_
            rintro e w' ⟨rfl, hbb⟩
            rw [HT.out]
            have HG2 := Lib.hid (HG.out.later hbb)
            clear hbb HG
            by_cases heq : txt way o = s.data.toList
            · have hTs : T = s := by rw [← HT.out, heq]
              subst hTs
              have HQ := Lib.hid heq
              clear heq
              go_wp2_with fail
              go_ret2
              exact Got2.mk_some (by rw [HRU.out, if_pos HQ.out]) HG2.out
            · have hne : (T.toList == s.toList) = false := by rw [HTL.out, ByteArray.toList_eq]; simpa using heq
              have HQ := Lib.hid heq
              clear heq
              go_wp2_with fail
              go_ret2
              exact Got2.mk_none (by rw [HRU.out, if_neg HQ.out]) HG2.out.below
end Go.Proofs.Ytpgpdckjnmpdoaa
