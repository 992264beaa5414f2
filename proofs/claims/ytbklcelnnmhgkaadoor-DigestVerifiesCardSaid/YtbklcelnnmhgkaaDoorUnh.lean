/- The undoing of hexadecimal; contracts of strings.IndexByte, codec.Unhex, and of what tells an error's number. -/
import Derived.Test.YtbklcelnnmhgkaaDoorHex
import Derived.Lib.Strings
namespace Go.Proofs.YtbklcelnnmhgkaaDoor
open Go.RowKit

def val (S : ByteArray) (b : UInt8) : Option Nat := S.data.toList.findIdx? (· == b)
theorem val_lt {S : ByteArray} {b : UInt8} {v : Nat} (h : val S b = some v) : v < S.size := by
  have := (List.findIdx?_eq_some_iff_findIdx_eq.1 h).1
  simpa using this
theorem index_val (l : List UInt8) (b : UInt8) : Lib.indexByte l b = match l.findIdx? (· == b) with | some i => (i : Int) | none => -1 := by
  induction l with
  | nil => rfl
  | cons x l ih =>
    unfold Lib.indexByte
    rw [List.findIdx?_cons, ih]
    by_cases hx : (x == b) = true
    · simp [hx]
    · simp only [hx]
      cases h : l.findIdx? (· == b) with
      | none => simp
      | some i => simp

def unhexL : List UInt8 → Option (List UInt8)
  | a :: b :: r => match val figs a, val figs b with
    | some h, some l => (unhexL r).map (UInt8.ofNat (h * 16 + l) :: ·)
    | _, _ => none
  | [_] => none
  | [] => some []

theorem ofNat_toNat (x : UInt8) : UInt8.ofNat x.toNat = x := by simp
theorem toNat_small (n : Nat) (h : n < 256) : (UInt8.ofNat n).toNat = n := by
  rw [UInt8.toNat_ofNat']; omega
theorem hexd_val : ∀ i, i < 16 → val figs (hexd i) = some i := by decide +kernel
theorem val_hexd (b : UInt8) (v : Nat) (h : val figs b = some v) : hexd v = b := by
  have : ∀ b : Fin 256, ∀ v ∈ val figs (UInt8.ofNat b.val), hexd v = UInt8.ofNat b.val := by decide +kernel
  have := this ⟨b.toNat, b.toNat_lt⟩ v (by simpa using h)
  simpa using this
theorem unhex_hex : ∀ l : List UInt8, unhexL (hexL l) = some l
  | [] => rfl
  | x :: r => by
    have hx := x.toNat_lt
    rw [hexL, unhexL, hexd_val _ (by omega), hexd_val _ (by omega)]
    simp only [unhex_hex r, Option.map_some]
    rw [show x.toNat / 16 * 16 + x.toNat % 16 = x.toNat by omega, ofNat_toNat]
theorem hex_unhex : ∀ (s l : List UInt8), unhexL s = some l → hexL l = s
  | [], l, h => by
    injection h with h
    rw [← h]; rfl
  | [a], l, h => by cases h
  | a :: b :: r, l, h => by
    rw [unhexL] at h
    cases ha : val figs a with
    | none => rw [ha] at h; cases h
    | some va =>
    cases hb : val figs b with
    | none => rw [ha, hb] at h; cases h
    | some vb =>
      have la : va < 16 := val_lt ha
      have lb : vb < 16 := val_lt hb
      rw [ha, hb] at h
      simp only [Option.map_eq_some_iff] at h
      obtain ⟨l', hl, rfl⟩ := h
      rw [hexL, toNat_small _ (by omega), hex_unhex r l' hl, show (va * 16 + vb) / 16 = va by omega, show (va * 16 + vb) % 16 = vb by omega, val_hexd a va ha, val_hexd b vb hb]

theorem ofInt64 (a : Nat) (ha : a < 18446744073709551616) : (BitVec.ofInt 64 (a : Int)).toNat = a := by
  rw [BitVec.ofInt_natCast, BitVec.toNat_ofNat]; exact Nat.mod_eq_of_lt (by omega)
theorem i64_or (a b : Nat) (ha : a < 4294967296) (hb : b < 4294967296) : bits .or .i64 (a : Int) (b : Int) = ((a ||| b : Nat) : Int) := by
  have hx : a ||| b < 2 ^ 32 := Nat.or_lt_two_pow (by omega) (by omega)
  show IntKind.i64.wrap ((BitVec.ofInt 64 (a : Int) ||| BitVec.ofInt 64 (b : Int)).toNat : Int) = _
  rw [BitVec.toNat_or, ofInt64 a (by omega), ofInt64 b (by omega)]
  exact IntWalk.i64_in _ (by omega)
theorem cf45 (S : ByteArray) (c : Int) (w : World) : (callFunc 45 #[.string S, .int .u8 c]).run Tryd.prog w = .ok (.value (.int .i64 (Lib.indexByte S.data.toList c.toNat.toUInt8))) w := by
  rw [run_callFunc_extern Tryd.func45 (by kernel_rfl) (by kernel_rfl) (by kernel_rfl) (e := Extern.BytealgIndexByte.indexByte) (by kernel_rfl), Lib.run_indexByteString]
  rfl

set_option maxHeartbeats 400000 in
theorem idx43 (S : ByteArray) (c : Int) (w : World) : Calls Tryd.prog 43 #[.string S, .int .u8 c] w fun e w' => e = .returned (.int .i64 (Lib.indexByte S.data.toList c.toNat.toUInt8)) ∧ w = w' := by
  have k := cf45
  go_enter Tryd.func43, Tryd.ntmps43
  go_wp2
  go_ret
  exact ⟨rfl, rfl⟩

set_option maxHeartbeats 400000 in
theorem idx40 (S : ByteArray) (c : Int) (w : World) : Calls Tryd.prog 40 #[.string S, .int .u8 c] w fun e w' => e = .returned (.int .i64 (Lib.indexByte S.data.toList c.toNat.toUInt8)) ∧ w = w' := by
  go_enter Tryd.func40, Tryd.ntmps40
  go_wp2_with fail
  refine (idx43 S c w).mono ?_
  rintro e w' ⟨rfl, rfl⟩
  go_wp2_with fail
  go_ret
  exact ⟨rfl, rfl⟩

theorem idx_some {S : ByteArray} {b : UInt8} {v : Nat} (h : val S b = some v) (w : World) : Calls Tryd.prog 40 #[.string S, .int .u8 (b.toNat : Int)] w fun e w' => e = .returned (.int .i64 (v : Int)) ∧ w = w' := by
  refine (idx40 S _ w).mono fun e w' ⟨h1, h2⟩ => ⟨?_, h2⟩
  rw [h1, index_val]
  have : ((b.toNat : Int).toNat).toUInt8 = b := by simp
  rw [this]
  unfold val at h
  rw [h]

theorem idx_none {S : ByteArray} {b : UInt8} (h : val S b = none) (w : World) : Calls Tryd.prog 40 #[.string S, .int .u8 (b.toNat : Int)] w fun e w' => e = .returned (.int .i64 (-1)) ∧ w = w' := by
  refine (idx40 S _ w).mono fun e w' ⟨h1, h2⟩ => ⟨?_, h2⟩
  rw [h1, index_val]
  have : ((b.toNat : Int).toNat).toUInt8 = b := by simp
  rw [this]
  unfold val at h
  rw [h]

/-- What the undoing calls answer: new bytes and no error, or no bytes and ErrForm. -/
def Got (w : World) (r : Option (List UInt8)) (e : Ending) (w' : World) : Prop :=
  match r with
  | some o => ∃ v, e = .returned (.tuple #[v, .nilIface]) ∧ Grows w v o w'
  | none => e = .returned (.tuple #[.slice none 0 0, .iface 37 (.int .i64 2)]) ∧ Below w.heap.size w w'
theorem Got.mk_none {w w' : World} {r : Option (List UInt8)} (h : r = none) (hb : Below w.heap.size w w') : Got w r (.returned (.tuple #[.slice none 0 0, .iface 37 (.int .i64 2)])) w' := by
  rw [h]; exact ⟨rfl, hb⟩
theorem Got.mk_some {w w' : World} {r : Option (List UInt8)} {o : List UInt8} {v : Value} (h : r = some o) (hb : Grows w v o w') : Got w r (.returned (.tuple #[v, .nilIface])) w' := by
  rw [h]; exact ⟨v, rfl, hb⟩
theorem byte_one (n : Nat) (z : Int) (hz : z = (n : Int)) (hn : n < 256) : (#[Value.int .u8 z] : Array Value).toList = us [UInt8.ofNat n] := by
  subst hz
  show [Value.int .u8 (n : Int)] = [Value.int .u8 ((UInt8.ofNat n).toNat : Int)]
  rw [toNat_small n hn]
theorem byte_named {n : Nat} {z : Int} {y : UInt8} (hy : UInt8.ofNat n = y) (hz : z = (n : Int)) (hn : n < 256) : (#[Value.int .u8 z] : Array Value).toList = us [y] := by
  rw [← hy]; exact byte_one n z hz hn
theorem drop_more {α : Type} {l : List α} {k : Nat} {x : α} (h : l[k]? = some x) : l.drop k = x :: l.drop (k + 1) := by
  obtain ⟨hk, rfl⟩ := List.getElem?_eq_some_iff.1 h
  exact List.drop_eq_getElem_cons hk

structure URel (w : World) (s : List UInt8) (j : Nat) (v : Value) (o : List UInt8) (wr : World) : Prop where
  grows : Grows w v o wr
  eq : (unhexL (s.drop (2 * j))).map (o ++ ·) = unhexL s
  cnt : o.length = j

theorem unhex_odd : ∀ s : List UInt8, s.length % 2 = 1 → unhexL s = none
  | [], h => by simp at h
  | [a], _ => rfl
  | a :: b :: r, h => by
    rw [unhexL, unhex_odd r (by simp at h; omega)]
    split <;> rfl

theorem or_join4 (h x : Nat) (hh : h < 16) (hx : x < 16) : bits .or .i64 ((h : Int) * 16) (x : Int) = ((h * 16 + x : Nat) : Int) := by
  have := i64_or (h * 16) x (by omega) (by omega)
  rw [nat_join 4 (h * 16) x (by omega) (by omega)] at this
  simpa using this

theorem map_nothing {o : List UInt8} : (Option.map (o ++ ·) (none : Option (List UInt8))) = none := rfl

set_option maxHeartbeats 400000 in
theorem unhex_any (s : ByteArray) (w : World) (hs : s.size ≤ 8000) :
    Calls Tryd.prog 35 #[.string s] w (Got w (unhexL s.data.toList)) := by
  have hlen : s.data.toList.length = s.size := by simp
  have HLN := Lib.hid hlen
  clear hlen
  by_cases h1 : s.size % 2 = 1
  · have h1i : (((s.size : Int) % 2) != 0) = true := by simp; omega
    have H1 := Lib.hid h1
    clear h1
    go_enter Tryd.func35, Tryd.ntmps35
    go_wp2_with fail
    go_ret2
    exact Got.mk_none (unhex_odd _ (by rw [HLN.out]; exact H1.out)) (Below.refl _ _)
  have h1i : (((s.size : Int) % 2) != 0) = false := by simp; omega
  obtain ⟨N, hN⟩ : ∃ N, s.size = 2 * N := ⟨s.size / 2, by omega⟩
  have HN := Lib.hid hN
  clear h1 hN
  go_enter Tryd.func35, Tryd.ntmps35
  go_wp2_with (with_reducible refine make8 _ rfl _ _ rfl _ rfl rfl ?_ ?_ ?_)
  · omega
  · omega
  intro v w1 ho hg
  have hG := Grows.made ho hg
  clear ho hg
  go_wp2_with fail
  go_loopw [4, 5] (fun v i wr => ∃ (j : Nat) (o : List UInt8), 2 * j ≤ s.size ∧ i = .int .i64 (2 * (j : Int)) ∧ URel w s.data.toList j v o wr) (fun _ i _ => s.size - (intOf i).toNat)
  case atStart => exact ⟨0, [], by omega, rfl, hG, by simp, rfl⟩
  case round =>
    clear hG
    obtain ⟨j, o, hj, rfl, hU⟩ := hrel
    have HU := Lib.hid hU
    have hcnt := hU.cnt
    have HC := Lib.hid hcnt
    clear hU hcnt
    by_cases hlt : 2 * j < s.size
    · have hlt1 : 2 * j + 1 < s.size := by have := HN.out; omega
      obtain ⟨x, hx⟩ : ∃ x, s.data.toList[2 * j]? = some x := ⟨_, List.getElem?_eq_getElem (by simpa using hlt)⟩
      obtain ⟨y, hy⟩ : ∃ y, s.data.toList[2 * j + 1]? = some y := ⟨_, List.getElem?_eq_getElem (by simpa using hlt1)⟩
      have hxs : s[2 * j] = x := by
        have := (List.getElem?_eq_some_iff.1 hx).2
        rw [← this]; rfl
      have hys : s[2 * j + 1] = y := by
        have := (List.getElem?_eq_some_iff.1 hy).2
        rw [← this]; rfl
      have hd : s.data.toList.drop (2 * j) = x :: y :: s.data.toList.drop (2 * (j + 1)) := by
        rw [drop_more hx, drop_more hy]; rfl
      have HD := Lib.hid hd
      clear hx hy hd
      cases hv : val figs x with
      | none =>
        have HV := Lib.hid hv
        clear hv
        cases hv2 : val figs y with
        | none =>
          have HV2 := Lib.hid hv2
          clear hv2
          go_wp2_with fail
          refine (idx_none (S := figs) HV.out wr).mono ?_
          rintro e w' ⟨rfl, rfl⟩
          go_wp2_with fail
          refine (idx_none (S := figs) HV2.out wr).mono ?_
          rintro e w' ⟨rfl, rfl⟩
          go_wp2_with fail
          go_ret2
          exact Got.mk_none (by rw [← HU.out.eq, HD.out, unhexL, HV.out]; rfl) HU.out.grows.below
        | some v2 =>
          have HV2 := Lib.hid hv2
          clear hv2
          go_wp2_with fail
          refine (idx_none (S := figs) HV.out wr).mono ?_
          rintro e w' ⟨rfl, rfl⟩
          go_wp2_with fail
          refine (idx_some (S := figs) HV2.out wr).mono ?_
          rintro e w' ⟨rfl, rfl⟩
          go_wp2_with fail
          go_ret2
          exact Got.mk_none (by rw [← HU.out.eq, HD.out, unhexL, HV.out]; rfl) HU.out.grows.below
      | some v1 =>
        have hv1 : v1 < 16 := val_lt hv
        have HV := Lib.hid hv
        clear hv
        cases hv2 : val figs y with
        | none =>
          have HV2 := Lib.hid hv2
          clear hv2
          go_wp2_with fail
          refine (idx_some (S := figs) HV.out wr).mono ?_
          rintro e w' ⟨rfl, rfl⟩
          go_wp2_with fail
          refine (idx_none (S := figs) HV2.out wr).mono ?_
          rintro e w' ⟨rfl, rfl⟩
          go_wp2_with fail
          go_ret2
          exact Got.mk_none (by rw [← HU.out.eq, HD.out, unhexL, HV.out, HV2.out]; rfl) HU.out.grows.below
        | some v2 =>
          have hv2' : v2 < 16 := val_lt hv2
          have HV2 := Lib.hid hv2
          clear hv2
          have hor := or_join4 v1 v2 hv1 hv2'
          have hlo : o.length + 1 ≤ 1000000 := by have := HC.out; omega
          obtain ⟨z, hz⟩ : ∃ z : UInt8, UInt8.ofNat (v1 * 16 + v2) = z := ⟨_, rfl⟩
          have HZ := Lib.hid hz
          clear hz
          go_wp2_with fail
          refine (idx_some (S := figs) HV.out wr).mono ?_
          rintro e w' ⟨rfl, rfl⟩
          go_wp2_with fail
          refine (idx_some (S := figs) HV2.out wr).mono ?_
          rintro e w' ⟨rfl, rfl⟩
          go_wp2_with (at_builtin; refine push8 wr rfl (.tmp 39) (.tmp 45) rfl w.heap.size u4 o [z] _ 1 rfl rfl HU.out.grows.own (byte_named HZ.out (by omega) (by omega)) rfl HU.out.grows.size hlo ?_)
          intro v' w' ho hg'
          have hG := HU.out.grows.push ho hg'
          clear ho hg'
          go_wp2_with fail
          go_roundw
          case rel =>
            refine ⟨j + 1, o ++ [z], by omega, by go_num, hG, ?_, ?_⟩
            · rw [← HU.out.eq, HD.out, unhexL, HV.out, HV2.out]
              simp only [Option.map_map]
              congr 1
              funext t
              simp [HZ.out]
            · rw [List.length_append, HC.out]; rfl
          case measure => simp [intOf]; omega
    · have hdone : unhexL s.data.toList = some o := by
        rw [← HU.out.eq, List.drop_of_length_le (by rw [HLN.out]; omega)]
        simp [unhexL]
      have HD := Lib.hid hdone
      clear hdone
      go_wp2_with fail
      go_ret2
      exact Got.mk_some HD.out HU.out.grows

theorem ta37 (x : Value) (w : World) : (Instr.typeAssert (.iface 37 x) 31 37 true).run Tryd.prog w = .ok (.tuple #[x, .bool true]) w := by kernel_rfl

set_option maxHeartbeats 400000 in
theorem num_form (w : World) : Calls Tryd.prog 18 #[.iface 37 (.int .i64 2)] w fun e w' => e = .returned (.int .i64 2) ∧ w = w' := by
  have k := ta37
  go_enter Tryd.func18, Tryd.ntmps18
  go_wp2_with fail
  go_ret
  exact ⟨rfl, rfl⟩

set_option maxHeartbeats 400000 in
theorem is_form (w : World) : Calls Tryd.prog 17 #[.iface 37 (.int .i64 2), .int .i64 2] w fun e w' => e = .returned (.bool true) ∧ w = w' := by
  go_enter Tryd.func17, Tryd.ntmps17
  go_wp2_with fail
  refine (num_form w).mono ?_
  rintro e w' ⟨rfl, rfl⟩
  go_wp2_with fail
  go_ret
  exact ⟨rfl, rfl⟩

end Go.Proofs.YtbklcelnnmhgkaaDoor
