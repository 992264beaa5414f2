/- Contracts of codec.Unhex, codec.Unbase, codec.Unurl, and of the law's Bytes. -/
import Derived.Test.YtpgpdckjnmpdoaaFrom
namespace Go.Proofs.Ytpgpdckjnmpdoaa
open Go.RowKit

structure URel (w : World) (s : List UInt8) (j : Nat) (v : Value) (o : List UInt8) (wr : World) : Prop where
  grows : Grows w v o wr
  eq : (unhexL (s.drop (2 * j))).map (o ++ ·) = unhexL s
  cnt : o.length = j

theorem unhex_odd : ∀ s : List UInt8, s.length % 2 = 1 → unhexL s = none
  | [], h => by simp at h
  | [a], _ => rfl
  | a :: b :: r, h => by
    rw [unhexL, unhex_odd r (by simp at h; omega)]
    split <;> rfl

theorem or_join4 (h x : Nat) (hh : h < 16) (hx : x < 16) : bits .or .i64 ((h : Int) * 16) (x : Int) = ((h * 16 + x : Nat) : Int) := by
  have := i64_or (h * 16) x (by omega) (by omega)
  rw [nat_join 4 (h * 16) x (by omega) (by omega)] at this
  simpa using this

theorem map_nothing {o : List UInt8} : (Option.map (o ++ ·) (none : Option (List UInt8))) = none := rfl

set_option maxHeartbeats 400000 in
theorem unhex_any (s : ByteArray) (w : World) (hs : s.size ≤ 8000) :
    Calls Try.prog 13 #[.string s] w (Got w (unhexL s.data.toList)) := by
  have hlen : s.data.toList.length = s.size := by simp
  have HLN := Lib.hid hlen
  clear hlen
  by_cases h1 : s.size % 2 = 1
  · have h1i : (((s.size : Int) % 2) != 0) = true := by simp; omega
    have H1 := Lib.hid h1
    clear h1
    go_enter Try.func13, Try.ntmps13
    go_wp2_with fail
    go_ret2
    exact Got.mk_none (unhex_odd _ (by rw [HLN.out]; exact H1.out)) (Below.refl _ _)
  have h1i : (((s.size : Int) % 2) != 0) = false := by simp; omega
  obtain ⟨N, hN⟩ : ∃ N, s.size = 2 * N := ⟨s.size / 2, by omega⟩
  have HN := Lib.hid hN
  clear h1 hN
  go_enter Try.func13, Try.ntmps13
  go_wp2_with (with_reducible refine make8 _ rfl _ _ rfl _ rfl rfl ?_ ?_ ?_)
  · omega
  · omega
  intro v w1 ho hg
  have hG := Grows.made ho hg
  clear ho hg
  go_wp2_with fail
  go_loopw [4, 5] (fun v i wr => ∃ (j : Nat) (o : List UInt8), 2 * j ≤ s.size ∧ i = .int .i64 (2 * (j : Int)) ∧ URel w s.data.toList j v o wr) (fun _ i _ => s.size - (intOf i).toNat)
  case atStart => exact ⟨0, [], by omega, rfl, hG, by simp, rfl⟩
  case round =>
    clear hG
    obtain ⟨j, o, hj, rfl, hU⟩ := hrel
    have HU := Lib.hid hU
    have hcnt := hU.cnt
    have HC := Lib.hid hcnt
    clear hU hcnt
    by_cases hlt : 2 * j < s.size
    · have hlt1 : 2 * j + 1 < s.size := by have := HN.out; omega
      obtain ⟨x, hx⟩ : ∃ x, s.data.toList[2 * j]? = some x := ⟨_, List.getElem?_eq_getElem (by simpa using hlt)⟩
      obtain ⟨y, hy⟩ : ∃ y, s.data.toList[2 * j + 1]? = some y := ⟨_, List.getElem?_eq_getElem (by simpa using hlt1)⟩
      have hxs : s[2 * j] = x := by
        have := (List.getElem?_eq_some_iff.1 hx).2
        rw [← this]; rfl
      have hys : s[2 * j + 1] = y := by
        have := (List.getElem?_eq_some_iff.1 hy).2
        rw [← this]; rfl
      have hd : s.data.toList.drop (2 * j) = x :: y :: s.data.toList.drop (2 * (j + 1)) := by
        rw [drop_more hx, drop_more hy]; rfl
      have HD := Lib.hid hd
      clear hx hy hd
      cases hv : val figs x with
      | none =>
        have HV := Lib.hid hv
        clear hv
        cases hv2 : val figs y with
        | none =>
          have HV2 := Lib.hid hv2
          clear hv2
          go_wp2_with fail
          refine (idx_none (S := figs) HV.out wr).mono ?_
          rintro e w' ⟨rfl, rfl⟩
          go_wp2_with fail
          refine (idx_none (S := figs) HV2.out wr).mono ?_
          rintro e w' ⟨rfl, rfl⟩
          go_wp2_with fail
          go_ret2
          exact Got.mk_none (by rw [← HU.out.eq, HD.out, unhexL, HV.out]; rfl) HU.out.grows.below
        | some v2 =>
          have HV2 := Lib.hid hv2
          clear hv2
          go_wp2_with fail
          refine (idx_none (S := figs) HV.out wr).mono ?_
          rintro e w' ⟨rfl, rfl⟩
          go_wp2_with fail
          refine (idx_some (S := figs) HV2.out wr).mono ?_
          rintro e w' ⟨rfl, rfl⟩
          go_wp2_with fail
          go_ret2
          exact Got.mk_none (by rw [← HU.out.eq, HD.out, unhexL, HV.out]; rfl) HU.out.grows.below
      | some v1 =>
        have hv1 : v1 < 16 := val_lt hv
        have HV := Lib.hid hv
        clear hv
        cases hv2 : val figs y with
        | none =>
          have HV2 := Lib.hid hv2
          clear hv2
          go_wp2_with fail
          refine (idx_some (S := figs) HV.out wr).mono ?_
          rintro e w' ⟨rfl, rfl⟩
          go_wp2_with fail
          refine (idx_none (S := figs) HV2.out wr).mono ?_
          rintro e w' ⟨rfl, rfl⟩
          go_wp2_with fail
          go_ret2
          exact Got.mk_none (by rw [← HU.out.eq, HD.out, unhexL, HV.out, HV2.out]; rfl) HU.out.grows.below
        | some v2 =>
          have hv2' : v2 < 16 := val_lt hv2
          have HV2 := Lib.hid hv2
          clear hv2
          have hor := or_join4 v1 v2 hv1 hv2'
          have hlo : o.length + 1 ≤ 1000000 := by have := HC.out; omega
          obtain ⟨z, hz⟩ : ∃ z : UInt8, UInt8.ofNat (v1 * 16 + v2) = z := ⟨_, rfl⟩
          have HZ := Lib.hid hz
          clear hz
          go_wp2_with fail
          refine (idx_some (S := figs) HV.out wr).mono ?_
          rintro e w' ⟨rfl, rfl⟩
          go_wp2_with fail
          refine (idx_some (S := figs) HV2.out wr).mono ?_
          rintro e w' ⟨rfl, rfl⟩
          go_wp2_with (at_builtin; refine push8 wr rfl (.tmp 39) (.tmp 45) rfl w.heap.size u4 o [z] _ 1 rfl rfl HU.out.grows.own (byte_named HZ.out (by omega) (by omega)) rfl HU.out.grows.size hlo ?_)
          intro v' w' ho hg'
          have hG := HU.out.grows.push ho hg'
          clear ho hg'
          go_wp2_with fail
          go_roundw
          case rel =>
            refine ⟨j + 1, o ++ [z], by omega, by go_num, hG, ?_, ?_⟩
            · rw [← HU.out.eq, HD.out, unhexL, HV.out, HV2.out]
              simp only [Option.map_map]
              congr 1
              funext t
              simp [HZ.out]
            · rw [List.length_append, HC.out]; rfl
          case measure => simp [intOf]; omega
    · have hdone : unhexL s.data.toList = some o := by
        rw [← HU.out.eq, List.drop_of_length_le (by rw [HLN.out]; omega)]
        simp [unhexL]
      have HD := Lib.hid hdone
      clear hdone
      go_wp2_with fail
      go_ret2
      exact Got.mk_some HD.out HU.out.grows

theorem SB_size : SB.size = 64 := rfl
theorem SU_size : SU.size = 64 := rfl

set_option maxHeartbeats 400000 in
theorem unurl_any (s : ByteArray) (w : World) (hs : s.size ≤ 4000) :
    Calls Try.prog 18 #[.string s] w (Got w (decL SU s.data.toList)) := by
  go_enter Try.func18, Try.ntmps18
  go_wp2_with fail
  refine (from_any SU s w SU_size hs).mono ?_
  intro e w1 hg
  cases hr : decL SU s.data.toList with
  | none =>
    rw [hr] at hg
    obtain ⟨rfl, hb⟩ := hg
    have HB := Lib.hid hb
    have HR := Lib.hid hr
    clear hb hr
    go_wp2_with fail
    go_ret2
    exact Got.mk_none HR.out HB.out
  | some o =>
    rw [hr] at hg
    obtain ⟨v, rfl, hb⟩ := hg
    have HB := Lib.hid hb
    have HR := Lib.hid hr
    clear hb hr
    go_wp2_with fail
    go_ret2
    exact Got.mk_some HR.out HB.out

theorem stripB_size (s : ByteArray) : (stripB s).size ≤ s.size := by
  unfold stripB strip
  split
  · show ((s.data.toList.dropLast).toArray).size ≤ _
    simp
  · show ((s.data.toList).toArray).size ≤ _
    simp

theorem stripB_data (s : ByteArray) : (stripB s).data.toList = strip s.data.toList := by simp [stripB]

set_option maxHeartbeats 400000 in
theorem unbase_any (s : ByteArray) (w : World) (hs : s.size ≤ 4000) :
    Calls Try.prog 16 #[.string s] w (Got w (unbaseL SB s.data.toList)) := by
  have hlen : s.data.toList.length = s.size := by simp
  by_cases h1 : s.size % 4 = 0
  · have h1i : (((s.size : Int) % 4) != 0) = false := by simp; omega
    have hu : unbaseL SB s.data.toList = decL SB (stripB (stripB s)).data.toList := by unfold unbaseL; rw [hlen, if_pos h1, stripB_data, stripB_data]
    have hs1 := stripB_size s
    have hs2 := stripB_size (stripB s)
    rw [hu]
    clear h1 hu hlen
    go_enter Try.func16, Try.ntmps16
    go_wp2_with fail
    refine (trim24 s w (by omega)).mono ?_
    rintro e w' ⟨rfl, rfl⟩
    go_wp2_with fail
    refine (trim24 (stripB s) w (by omega)).mono ?_
    rintro e w' ⟨rfl, rfl⟩
    go_wp2_with fail
    refine (from_any SB (stripB (stripB s)) w SB_size (by omega)).mono ?_
    intro e w1 hg
    cases hr : decL SB (stripB (stripB s)).data.toList with
    | none =>
      rw [hr] at hg
      obtain ⟨rfl, hb⟩ := hg
      have HB := Lib.hid hb
      have HR := Lib.hid hr
      clear hb hr
      go_wp2_with fail
      go_ret2
      exact Got.mk_none HR.out HB.out
    | some o =>
      rw [hr] at hg
      obtain ⟨v, rfl, hb⟩ := hg
      have HB := Lib.hid hb
      have HR := Lib.hid hr
      clear hb hr
      go_wp2_with fail
      go_ret2
      exact Got.mk_some HR.out HB.out
  · have h1i : (((s.size : Int) % 4) != 0) = true := by simp; omega
    have hu : unbaseL SB s.data.toList = none := by unfold unbaseL; rw [hlen, if_neg h1]
    rw [hu]
    clear h1 hu hlen
    go_enter Try.func16, Try.ntmps16
    go_wp2_with fail
    go_ret2
    exact Got.mk_none rfl (Below.refl _ _)

set_option maxHeartbeats 400000 in
theorem bytes_any {w : World} {B B' : Nat} {A A' : Option Addr} {n m : Nat} (c c' : Nat) {l l' : List UInt8} (h : Rd w B A n (us l)) (h' : Rd w B' A' m (us l')) :
    Calls Try.prog 19 #[.slice A n c, .slice A' m c'] w fun e w' => e = .returned (.bool (l == l')) ∧ w = w' := by
  have s1 := str8 w B A n c l h
  have s2 := str8 w B' A' m c' l' h'
  clear h h'
  go_enter Try.func19, Try.ntmps19
  go_wp2_with fail
  go_ret
  exact ⟨rfl, rfl⟩
end Go.Proofs.Ytpgpdckjnmpdoaa
