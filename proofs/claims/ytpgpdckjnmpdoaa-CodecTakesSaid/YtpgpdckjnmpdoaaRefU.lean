/- Contract of the reference's Unhex. -/
import Derived.Test.YtpgpdckjnmpdoaaRefH
import Derived.Test.YtpgpdckjnmpdoaaRefQ
import Derived.Deep.RegionWith
namespace Go.Proofs.Ytpgpdckjnmpdoaa
open Go.RowKit

theorem hits_le (a b : UInt8) : (hits a b 256).length ≤ 1 := by
  cases h : hits a b 256 with
  | nil => decide
  | cons x r =>
    have hx : x ∈ hits a b 256 := by rw [h]; exact List.mem_cons_self
    unfold hits at hx
    rw [List.mem_map] at hx
    obtain ⟨n, hn, rfl⟩ := hx
    rw [List.mem_filter, List.mem_range] at hn
    have he : hexL [UInt8.ofNat n] = [a, b] := by simpa using hn.2
    simp only [hexL, toNat_small n hn.1] at he
    injection he with h1 h2
    injection h2 with h2 _
    have := hits_hex ⟨n, hn.1⟩
    simp only at this
    rw [h1, h2, h] at this
    rw [this]
    exact Nat.le_refl _

theorem pairs_length : ∀ s : List UInt8, 2 * (pairs s).length ≤ s.length
  | [] => by simp [pairs]
  | [a] => by simp [pairs]
  | a :: b :: r => by
    have h1 := hits_le a b
    have h2 := pairs_length r
    rw [pairs, List.length_append, List.length_cons, List.length_cons]
    omega

theorem Below.grownN {w w' : World} (h : Below w.heap.size w w') : w.grownBy w' none := ⟨h.os, h.tape, h.output, h.size, fun k hk _ => h.block k hk⟩
theorem Own.later {w w' : World} {B : Nat} {v : Value} {l : List UInt8} (h : Own w B v l) (hb : Below w.heap.size w w') : Own w' B v l :=
  World.ownsRow.kept h (Below.grownN hb) (by cases hv : v.ownBlock <;> simp)
theorem Grows.later {w wr w' : World} {v : Value} {l : List UInt8} (h : Grows w v l wr) (hb : Below wr.heap.size wr w') : Grows w v l w' :=
  ⟨h.own.later hb, h.below.trans (hb.mono h.size), Nat.le_trans h.size hb.size⟩

/-- What the references' undoing calls answer. -/
def Got2 (w : World) (r : Option (List UInt8)) (e : Ending) (w' : World) : Prop :=
  match r with
  | some o => ∃ v, e = .returned (.tuple #[v, .bool true]) ∧ Grows w v o w'
  | none => e = .returned (.tuple #[.slice none 0 0, .bool false]) ∧ Below w.heap.size w w'
theorem Got2.mk_none {w w' : World} {r : Option (List UInt8)} (h : r = none) (hb : Below w.heap.size w w') : Got2 w r (.returned (.tuple #[.slice none 0 0, .bool false])) w' := by
  rw [h]; exact ⟨rfl, hb⟩
theorem Got2.mk_some {w w' : World} {r : Option (List UInt8)} {o : List UInt8} {v : Value} (h : r = some o) (hb : Grows w v o w') : Got2 w r (.returned (.tuple #[v, .bool true])) w' := by
  rw [h]; exact ⟨v, rfl, hb⟩

def hs (y : UInt8) : ByteArray := ⟨(hexL [y]).toArray⟩

theorem hexOne (wr : World) (z : Int) (y : UInt8) (hz : z = (y.toNat : Int)) : Calls Try.prog 9 #[.slice (some ⟨wr.heap.size, 0, none⟩) 1 1] (wr.alloc (.cells #[.int .u8 z] 5)).drew fun e w' => e = .returned (.string (hs y)) ∧ Below wr.heap.size wr w' := by
  have hw := Own.lit wr #[.int .u8 z] [y] 1 (by rw [hz]; rfl) rfl (by decide)
  have hr : Rd (wr.alloc (.cells #[.int .u8 z] 5)).drew (wr.alloc (.cells #[.int .u8 z] 5)).drew.heap.size (some ⟨wr.heap.size, 0, none⟩) 1 (us [y]) := hw.rd.2
  have hb : Below wr.heap.size wr (wr.alloc (.cells #[.int .u8 z] 5)).drew := ((Below.refl _ _).alloc (Nat.le_refl _) _).drew
  exact (refhex_any _ 1 1 [y] _ hr (by decide)).mono fun e w' ⟨h1, h2⟩ => ⟨h1, hb.trans (h2.mono hb.size)⟩

theorem cmp_two (s : ByteArray) (y a b : UInt8) (i : Nat) (ha : s.data.toList[i]? = some a) (hb : s.data.toList[i + 1]? = some b) : ((hs y).toList == (s.extract i (i + 2)).toList) = (hexL [y] == [a, b]) := by
  rw [Lib.extract_toList, ByteArray.toList_eq, drop_more ha, drop_more hb, show i + 2 - i = 2 by omega]
  rfl

set_option maxHeartbeats 1000000 in
set_option maxRecDepth 100000 in
theorem refunhex_any (s : ByteArray) (w : World) (hs0 : s.size ≤ 400) : Calls Try.prog 14 #[.string s] w (Got2 w (unhexL s.data.toList)) := by
  have hlen : s.data.toList.length = s.size := by simp
  have HLN := Lib.hid hlen
  clear hlen
  go_enter Try.func14, Try.ntmps14
  go_wp2_with fail
  have hG := Grows.lit0 w
  generalize (Value.slice (some ⟨w.heap.size, 0, none⟩) 0 0) = v0 at hG ⊢
  generalize w.alloc (.cells #[] 5) = w0 at hG ⊢
  go_loopw [4, 5] (fun v i wr => ∃ (j : Nat) (o : List UInt8), 2 * j ≤ s.size ∧ i = .int .i64 (2 * (j : Int)) ∧ o ++ pairs (s.data.toList.drop (2 * j)) = pairs s.data.toList ∧ o.length ≤ j ∧ Grows w v o wr) (fun _ i _ => s.size - (intOf i).toNat)
  case atStart => exact ⟨0, [], by omega, rfl, rfl, by simp, hG⟩
  case round =>
    clear hG
    obtain ⟨j, o, hj, rfl, hpr, hoj, hG⟩ := hrel
    have HPR := Lib.hid hpr
    have HG := Lib.hid hG
    clear hG hpr
    by_cases hlt : 2 * j + 1 < s.size
    · obtain ⟨x, hx⟩ : ∃ x, s.data.toList[2 * j]? = some x := ⟨_, List.getElem?_eq_getElem (by rw [HLN.out]; omega)⟩
      obtain ⟨y, hy⟩ : ∃ y, s.data.toList[2 * j + 1]? = some y := ⟨_, List.getElem?_eq_getElem (by rw [HLN.out]; omega)⟩
      have HX := Lib.hid hx
      have HY := Lib.hid hy
      clear hx hy
      have d0 : decide (2 * (j : Int) + 1 < (s.size : Int)) = true := by simp; omega
      go_wp2_with fail
      go_loopw [4, 6] (fun v n wr => ∃ t : Nat, t ≤ 256 ∧ n = .int .i64 t ∧ Grows w v (o ++ hits x y t) wr) (fun _ n _ => 256 - (intOf n).toNat)
      case atStart => exact ⟨0, by omega, rfl, by have : hits x y 0 = [] := rfl; rw [this, List.append_nil]; exact HG.out⟩
      case round =>
        clear HG
        obtain ⟨t, ht, rfl, hG⟩ := hrel
        have HG := Lib.hid hG
        clear hG
        by_cases ht2 : t < 256
        · have hyt : IntKind.u8.wrap (t : Int) = ((UInt8.ofNat t).toNat : Int) := by rw [toNat_small t ht2, IntKind.wrap_u8']; omega
          have HYT := Lib.hid hyt
          obtain ⟨z, hz⟩ : ∃ z : UInt8, UInt8.ofNat t = z := ⟨_, rfl⟩
          rw [hz] at HYT
          have HZ := Lib.hid hz
          clear hyt hz
          have d1 : decide ((t : Int) < 256) = true := by simp; omega
          have hcm := cmp_two s z x y (2 * j) HX.out HY.out
          cases hb : (hexL [z] == [x, y])
          · rw [hb] at hcm
            have HB := Lib.hid hb
            clear hb
            go_wp2_with fail
            have e1 : IntKind.i64.wrap (2 * (j : Int) + 2) = 2 * (j : Int) + 2 := IntWalk.i64_in _ (by omega)
            have e2 : (2 * (j : Int) + 2).toNat = 2 * j + 2 := by omega
            have e3 : (2 * (j : Int)).toNat = 2 * j := by omega
            have e4 : 0 ≤ 2 * (j : Int) := by omega
            have e5 : 2 * (j : Int) ≤ 2 * (j : Int) + 2 := by omega
            have e6 : 2 * (j : Int) + 2 ≤ (s.size : Int) := by omega
            go_region_with ((go_at_call 9; refine (hexOne wr _ z HYT.out).mono ?_; rintro e w' ⟨rfl, hbb⟩))
            clear e1 e2 e3 e4 e5 e6 hcm
            have HG2 := Lib.hid (HG.out.later hbb)
            clear hbb HG
            go_wp2_with fail
            go_roundw
            case rel => exact ⟨t + 1, by omega, by go_num, by rw [hits_no (by rw [HZ.out]; exact HB.out)]; exact HG2.out⟩
            case measure => simp [intOf]; omega
          · rw [hb] at hcm
            have HB := Lib.hid hb
            clear hb
            go_wp2_with fail
            have e1 : IntKind.i64.wrap (2 * (j : Int) + 2) = 2 * (j : Int) + 2 := IntWalk.i64_in _ (by omega)
            have e2 : (2 * (j : Int) + 2).toNat = 2 * j + 2 := by omega
            have e3 : (2 * (j : Int)).toNat = 2 * j := by omega
            have e4 : 0 ≤ 2 * (j : Int) := by omega
            have e5 : 2 * (j : Int) ≤ 2 * (j : Int) + 2 := by omega
            have e6 : 2 * (j : Int) + 2 ≤ (s.size : Int) := by omega
            go_region_with ((go_at_call 9; refine (hexOne wr _ z HYT.out).mono ?_; rintro e w' ⟨rfl, hbb⟩))
            clear e1 e2 e3 e4 e5 e6 hcm
            have HG2 := Lib.hid (HG.out.later hbb)
            clear hbb HG
            have hlo : (o ++ hits x y t).length + 1 ≤ 1000000 := by
              have := hits_length x y t
              rw [List.length_append]; omega
            have HLO := Lib.hid hlo
            clear hlo
            go_wp2_with (at_builtin; refine push8 w' rfl (.tmp 29) (.tmp 32) rfl w.heap.size u4 (o ++ hits x y t) [z] _ 1 rfl rfl HG2.out.own (byte_named HZ.out (by omega) (by omega)) rfl HG2.out.size HLO.out ?_)
            intro v' w'' ho hg'
            have hG := HG2.out.push ho hg'
            clear ho hg' HG2
            have HG3 := Lib.hid hG
            clear hG
            go_wp2_with fail
            go_roundw
            case rel => exact ⟨t + 1, by omega, by go_num, by rw [hits_yes (by rw [HZ.out]; exact HB.out), HZ.out]; simpa using HG3.out⟩
            case measure => simp [intOf]; omega
        · have ht3 : t = 256 := by omega
          subst ht3
          have hst : (o ++ hits x y 256) ++ pairs (s.data.toList.drop (2 * (j + 1))) = pairs s.data.toList := by
            rw [← HPR.out, drop_more HX.out, drop_more HY.out, pairs, List.append_assoc]; rfl
          have hle : (o ++ hits x y 256).length ≤ j + 1 := by
            have := hits_le x y
            rw [List.length_append]; omega
          have HST := Lib.hid hst
          clear hst ht2
          go_wp2_with fail
          go_roundw
          case rel => exact ⟨j + 1, _, by omega, by go_num, HST.out, hle, HG.out⟩
          case measure => simp [intOf]; omega
    · have hend : o = pairs s.data.toList := by
        rw [← HPR.out]
        have : pairs (s.data.toList.drop (2 * j)) = [] := by
          have hl := List.length_drop (l := s.data.toList) (i := 2 * j)
          rw [HLN.out] at hl
          match h : s.data.toList.drop (2 * j) with
          | [] => rfl
          | [_] => rfl
          | _ :: _ :: _ => rw [h] at hl; simp at hl; omega
        rw [this, List.append_nil]
      have hru := pairs_unhex s.data.toList
      rw [← hend] at hru
      have HRU := Lib.hid hru
      obtain ⟨A', c', rfl⟩ := HG.out.own.slice
      have hrd := HG.out.own.rd.2
      have HRD := Lib.hid hrd
      clear hend hru hrd
      obtain ⟨T, hT⟩ : ∃ T : ByteArray, (⟨(hexL o).toArray⟩ : ByteArray) = T := ⟨_, rfl⟩
      have htl : T.toList = hexL o := by rw [← hT, ByteArray.toList_eq]
      have HT := Lib.hid hT
      have HTL := Lib.hid htl
      clear hT htl
      go_wp2_with fail
      refine (refhex_any A' o.length c' o wr HRD.out (by omega)).mono ?_
      rintro e w' ⟨rfl, hbb⟩
      rw [HT.out]
      have HG2 := Lib.hid (HG.out.later hbb)
      clear hbb HG
      by_cases heq : hexL o = s.data.toList
      · have hTs : T = s := by rw [← HT.out, heq]
        subst hTs
        have HQ := Lib.hid heq
        clear heq
        go_wp2_with fail
        go_ret2
        exact Got2.mk_some (by rw [HRU.out, if_pos HQ.out]) HG2.out
      · have hne : (T.toList == s.toList) = false := by rw [HTL.out, ByteArray.toList_eq]; simpa using heq
        have HQ := Lib.hid heq
        clear heq
        go_wp2_with fail
        go_ret2
        exact Got2.mk_none (by rw [HRU.out, if_neg HQ.out]) HG2.out.below
end Go.Proofs.Ytpgpdckjnmpdoaa
