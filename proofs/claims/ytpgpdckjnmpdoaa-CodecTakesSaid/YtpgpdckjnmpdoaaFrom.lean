/- Contract of codec.fromSigns. -/
import Derived.Test.YtpgpdckjnmpdoaaIdx
namespace Go.Proofs.Ytpgpdckjnmpdoaa
open Go.RowKit

/-- What the undoing calls answer: new bytes and no error, or no bytes and ErrForm. -/
def Got (w : World) (r : Option (List UInt8)) (e : Ending) (w' : World) : Prop :=
  match r with
  | some o => ∃ v, e = .returned (.tuple #[v, .nilIface]) ∧ Grows w v o w'
  | none => e = .returned (.tuple #[.slice none 0 0, .iface 42 (.int .i64 2)]) ∧ Below w.heap.size w w'

theorem Got.mk_none {w w' : World} {r : Option (List UInt8)} (h : r = none) (hb : Below w.heap.size w w') : Got w r (.returned (.tuple #[.slice none 0 0, .iface 42 (.int .i64 2)])) w' := by
  rw [h]; exact ⟨rfl, hb⟩
theorem Got.mk_some {w w' : World} {r : Option (List UInt8)} {o : List UInt8} {v : Value} (h : r = some o) (hb : Grows w v o w') : Got w r (.returned (.tuple #[v, .nilIface])) w' := by
  rw [h]; exact ⟨v, rfl, hb⟩

structure FRel (S : ByteArray) (w : World) (s : List UInt8) (k : Nat) (v : Value) (o : List UInt8) (h c : Nat) (wr : World) : Prop where
  grows : Grows w v o wr
  eq : drun S (o, h, c) (s.drop k) = drun S ([], 0, 0) s
  cnt : 8 * o.length + c = 6 * k
  kind : (c = 0 ∧ h < 1) ∨ (c = 2 ∧ h < 4) ∨ (c = 4 ∧ h < 16) ∨ (c = 6 ∧ h < 64)

theorem or_join6 (h x : Nat) (hh : h < 4096) (hx : x < 64) : bits .or .i64 ((h : Int) * 64) (x : Int) = ((h * 64 + x : Nat) : Int) := by
  have := i64_or (h * 64) x (by omega) (by omega)
  rw [nat_join 6 (h * 64) x (by omega) (by omega)] at this
  simpa using this

theorem byte_one (n : Nat) (z : Int) (hz : z = (n : Int)) (hn : n < 256) : (#[Value.int .u8 z] : Array Value).toList = us [UInt8.ofNat n] := by
  subst hz
  show [Value.int .u8 (n : Int)] = [Value.int .u8 ((UInt8.ofNat n).toNat : Int)]
  rw [toNat_small n hn]

theorem byte_named {n : Nat} {z : Int} {y : UInt8} (hy : UInt8.ofNat n = y) (hz : z = (n : Int)) (hn : n < 256) : (#[Value.int .u8 z] : Array Value).toList = us [y] := by
  rw [← hy]; exact byte_one n z hz hn

theorem drop_more {α : Type} {l : List α} {k : Nat} {x : α} (h : l[k]? = some x) : l.drop k = x :: l.drop (k + 1) := by
  obtain ⟨hk, rfl⟩ := List.getElem?_eq_some_iff.1 h
  exact List.drop_eq_getElem_cons hk

set_option maxHeartbeats 400000 in
theorem from_any (S s : ByteArray) (w : World) (hS : S.size = 64) (hs : s.size ≤ 4000) :
    Calls Try.prog 25 #[.string s, .string S] w (Got w (decL S s.data.toList)) := by
  have hlen : s.data.toList.length = s.size := by simp
  have HLN := Lib.hid hlen
  clear hlen
  by_cases h1 : s.size % 4 = 1
  · have h1i : (((s.size : Int) % 4) == 1) = true := by simp; omega
    have H1 := Lib.hid h1
    clear h1
    go_enter Try.func25, Try.ntmps25
    go_wp2_with fail
    go_ret2
    exact Got.mk_none (by unfold decL; rw [HLN.out, if_pos H1.out]) (Below.refl _ _)
  have hdec : decL S s.data.toList = drun S ([], 0, 0) s.data.toList := by unfold decL; rw [HLN.out, if_neg h1]
  rw [hdec]
  have h1i : (((s.size : Int) % 4) == 1) = false := by simp; omega
  clear h1 hdec
  go_enter Try.func25, Try.ntmps25
  go_wp2_with (with_reducible refine make8 _ rfl _ _ rfl _ rfl rfl ?_ ?_ ?_)
  · omega
  · omega
  intro v w1 ho hg
  have hG := Grows.made ho hg
  clear ho hg
  go_wp2_with fail
  go_loopw [6, 7, 8, 27] (fun v h c i wr => ∃ (k : Nat) (o : List UInt8) (hh cc : Nat), k ≤ s.size ∧ i = .int .i64 k ∧ h = .int .i64 hh ∧ c = .int .i64 cc ∧ FRel S w s.data.toList k v o hh cc wr) (fun _ _ _ i _ => s.size - (intOf i).toNat)
  case atStart => exact ⟨0, [], 0, 0, Nat.zero_le _, rfl, rfl, rfl, hG, rfl, rfl, .inl ⟨rfl, by decide⟩⟩
  case round =>
    clear hG
    obtain ⟨k, o, hh, cc, hk, rfl, rfl, rfl, hF⟩ := hrel
    have HF := Lib.hid hF
    have hkind := hF.kind
    have hcnt := hF.cnt
    clear hF
    by_cases hlt : k < s.size
    · obtain ⟨x, hx⟩ : ∃ x, s.data.toList[k]? = some x := ⟨_, List.getElem?_eq_getElem (by simpa using hlt)⟩
      have hxs : s[k] = x := by
        have := (List.getElem?_eq_some_iff.1 hx).2
        rw [← this]; rfl
      have HX := Lib.hid hx
      clear hx
      cases hv : val S x with
      | none =>
        have HV := Lib.hid hv
        clear hv
        go_wp2_with fail
        refine (idx_none HV.out wr).mono ?_
        rintro e w' ⟨rfl, rfl⟩
        go_wp2_with fail
        go_ret2
        exact Got.mk_none (by rw [← HF.out.eq, drop_more HX.out, drun_none _ _ HV.out]) HF.out.grows.below
      | some vx =>
        have hvx : vx < 64 := by have := val_lt hv; omega
        have HV := Lib.hid hv
        clear hv
        have hor := or_join6 hh vx (by omega) hvx
        have hlo : o.length + 1 ≤ 1000000 := by omega
        go_wp2_with fail
        refine (idx_some HV.out wr).mono ?_
        rintro e w' ⟨rfl, rfl⟩
        rcases hkind with ⟨rfl, hb⟩ | ⟨rfl, hb⟩ | ⟨rfl, hb⟩ | ⟨rfl, hb⟩
        · go_wp2_with fail
          go_roundw
          case rel =>
            refine ⟨k + 1, o, hh * 64 + vx, 6, by omega, by go_num, by go_num, by go_num, HF.out.grows, ?_, ?_, ?_⟩
            · rw [← HF.out.eq, drop_more HX.out, drun_val _ _ HV.out, show hh = 0 by omega]; simp [dstep]
            · omega
            · omega
          case measure => simp [intOf]; omega
        · obtain ⟨y, hy⟩ : ∃ y : UInt8, UInt8.ofNat (hh * 64 + vx) = y := ⟨_, rfl⟩
          have HY := Lib.hid hy
          clear hy
          have hmk : bits .and .i64 ((hh : Int) * 64 + (vx : Int)) 0 = (((hh * 64 + vx) % 1 : Nat) : Int) := by
            have := and_mask (hh * 64 + vx) 0 ((hh * 64 + vx) % 1) (by omega) (by omega) (by simp; omega)
            simpa using this
          go_wp2_with (at_builtin; refine push8 wr rfl (.tmp 48) (.tmp 53) rfl w.heap.size u6 o [y] _ 1 rfl rfl HF.out.grows.own (byte_named HY.out (by omega) (by omega)) rfl HF.out.grows.size hlo ?_)
          intro v' w' ho hg'
          have hG := HF.out.grows.push ho hg'
          clear ho hg'
          go_wp2_with fail
          go_roundw
          case rel =>
            refine ⟨k + 1, o ++ [y], 0, 0, by omega, by go_num, by go_num, by go_num, hG, ?_, ?_, ?_⟩
            · rw [← HF.out.eq, drop_more HX.out, drun_val _ _ HV.out, ← HY.out]; rfl
            · simp; omega
            · omega
          case measure => simp [intOf]; omega
        · obtain ⟨y, hy⟩ : ∃ y : UInt8, UInt8.ofNat ((hh * 64 + vx) / 4) = y := ⟨_, rfl⟩
          have HY := Lib.hid hy
          clear hy
          have hmk : bits .and .i64 ((hh : Int) * 64 + (vx : Int)) 3 = (((hh * 64 + vx) % 4 : Nat) : Int) := by
            have := and_mask (hh * 64 + vx) 3 ((hh * 64 + vx) % 4) (by omega) (by omega) (nat_mask2 _)
            simpa using this
          go_wp2_with (at_builtin; refine push8 wr rfl (.tmp 48) (.tmp 53) rfl w.heap.size u6 o [y] _ 1 rfl rfl HF.out.grows.own (byte_named HY.out (by omega) (by omega)) rfl HF.out.grows.size hlo ?_)
          intro v' w' ho hg'
          have hG := HF.out.grows.push ho hg'
          clear ho hg'
          go_wp2_with fail
          go_roundw
          case rel =>
            refine ⟨k + 1, o ++ [y], (hh * 64 + vx) % 4, 2, by omega, by go_num, by go_num, by go_num, hG, ?_, ?_, ?_⟩
            · rw [← HF.out.eq, drop_more HX.out, drun_val _ _ HV.out, ← HY.out]; rfl
            · simp; omega
            · omega
          case measure => simp [intOf]; omega
        · obtain ⟨y, hy⟩ : ∃ y : UInt8, UInt8.ofNat ((hh * 64 + vx) / 16) = y := ⟨_, rfl⟩
          have HY := Lib.hid hy
          clear hy
          have hmk : bits .and .i64 ((hh : Int) * 64 + (vx : Int)) 15 = (((hh * 64 + vx) % 16 : Nat) : Int) := by
            have := and_mask (hh * 64 + vx) 15 ((hh * 64 + vx) % 16) (by omega) (by omega) (nat_mask4 _)
            simpa using this
          go_wp2_with (at_builtin; refine push8 wr rfl (.tmp 48) (.tmp 53) rfl w.heap.size u6 o [y] _ 1 rfl rfl HF.out.grows.own (byte_named HY.out (by omega) (by omega)) rfl HF.out.grows.size hlo ?_)
          intro v' w' ho hg'
          have hG := HF.out.grows.push ho hg'
          clear ho hg'
          go_wp2_with fail
          go_roundw
          case rel =>
            refine ⟨k + 1, o ++ [y], (hh * 64 + vx) % 16, 4, by omega, by go_num, by go_num, by go_num, hG, ?_, ?_, ?_⟩
            · rw [← HF.out.eq, drop_more HX.out, drun_val _ _ HV.out, ← HY.out]; rfl
            · simp; omega
            · omega
          case measure => simp [intOf]; omega
    · have hkn : k = s.size := by omega
      have hdr : drun S ([], 0, 0) s.data.toList = if hh = 0 then some o else none := by
        rw [← HF.out.eq, List.drop_of_length_le (by rw [HLN.out]; omega)]; rfl
      have HD := Lib.hid hdr
      clear hdr hkn
      by_cases h0 : hh = 0
      · subst h0
        go_wp2_with fail
        go_ret2
        exact Got.mk_some (by rw [HD.out]; rfl) HF.out.grows
      · have h0i : ((hh : Int) != 0) = true := by simp; omega
        go_wp2_with fail
        go_ret2
        exact Got.mk_none (by rw [HD.out, if_neg h0]) HF.out.grows.below
end Go.Proofs.Ytpgpdckjnmpdoaa
