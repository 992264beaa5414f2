/- Contract of codec.toSigns. -/
import Derived.Test.YtpgpdckjnmpdoaaHex
namespace Go.Proofs.Ytpgpdckjnmpdoaa
open Go.RowKit

theorem ofInt64 (a : Nat) (ha : a < 18446744073709551616) : (BitVec.ofInt 64 (a : Int)).toNat = a := by
  rw [BitVec.ofInt_natCast, BitVec.toNat_ofNat]; exact Nat.mod_eq_of_lt (by omega)

theorem i64_or (a b : Nat) (ha : a < 4294967296) (hb : b < 4294967296) : bits .or .i64 (a : Int) (b : Int) = ((a ||| b : Nat) : Int) := by
  have hx : a ||| b < 2 ^ 32 := Nat.or_lt_two_pow (by omega) (by omega)
  show IntKind.i64.wrap ((BitVec.ofInt 64 (a : Int) ||| BitVec.ofInt 64 (b : Int)).toNat : Int) = _
  rw [BitVec.toNat_or, ofInt64 a (by omega), ofInt64 b (by omega)]
  exact IntWalk.i64_in _ (by omega)

theorem i64_and (a b : Nat) (ha : a < 4294967296) (hb : b < 4294967296) : bits .and .i64 (a : Int) (b : Int) = ((a &&& b : Nat) : Int) := by
  have hx : a &&& b < 2 ^ 32 := Nat.and_lt_two_pow _ (by omega)
  show IntKind.i64.wrap ((BitVec.ofInt 64 (a : Int) &&& BitVec.ofInt 64 (b : Int)).toNat : Int) = _
  rw [BitVec.toNat_and, ofInt64 a (by omega), ofInt64 b (by omega)]
  exact IntWalk.i64_in _ (by omega)

theorem or_join (h x : Nat) (hh : h < 4096) (hx : x < 256) : bits .or .i64 ((h : Int) * 256) (x : Int) = ((h * 256 + x : Nat) : Int) := by
  have := i64_or (h * 256) x (by omega) (by omega)
  rw [nat_join 8 (h * 256) x (by omega) (by omega)] at this
  simpa using this

theorem sg_one (S : ByteArray) (i : Nat) (h : i < S.size) : (#[Value.int .u8 ((S[i]).toNat : Int)] : Array Value).toList = us [sg S i] := by
  have : S[i] = sg S i := by
    unfold sg
    have h' : i < S.data.toList.length := by simpa using h
    rw [List.getD, List.getElem?_eq_getElem h']
    rfl
  rw [this]
  rfl

theorem and_mask (h m r : Nat) (hh : h < 4096) (hm : m < 4096) (e : h &&& m = r) : bits .and .i64 (h : Int) (m : Int) = (r : Int) := by
  rw [i64_and h m (by omega) (by omega), e]

/-- The state of the outer loop behind k bytes. -/
structure SRel (S : ByteArray) (w : World) (l : List UInt8) (k : Nat) (v : Value) (o : List UInt8) (h c : Nat) (wr : World) : Prop where
  grows : Grows w v o wr
  eq : st S (l.take k) = (o, h, c)
  cnt : 6 * o.length + c = 8 * k
  kind : (c = 0 ∧ h < 1) ∨ (c = 2 ∧ h < 4) ∨ (c = 4 ∧ h < 16)

/-- The state of the inner loop. -/
structure IRel (S : ByteArray) (w : World) (k : Nat) (T : List UInt8 × Nat × Nat) (v : Value) (o : List UInt8) (h c : Nat) (wr : World) : Prop where
  grows : Grows w v o wr
  eq : drain S o h c = T
  cnt : 6 * o.length + c = 8 * k + 8
  kind : (c < 6 ∧ ((c = 0 ∧ h < 1) ∨ (c = 2 ∧ h < 4) ∨ (c = 4 ∧ h < 16))) ∨ (c = 6 ∧ h < 64) ∨ (c = 8 ∧ h < 256) ∨ (c = 10 ∧ h < 1024) ∨ (c = 12 ∧ h < 4096)

set_option maxHeartbeats 400000 in
theorem signs_any (S : ByteArray) (A : Option Addr) (n c : Nat) (l : List UInt8) (w : World) (hS : S.size = 64) (hr : Rd w w.heap.size A n (us l)) (hn : n ≤ 4000) :
    Calls Try.prog 20 #[.slice A n c, .string S] w fun e w' => ∃ v, e = .returned v ∧ Grows w v (signsL S l) w' := by
  have hl : l.length = n := by have := hr.1; rwa [us_length] at this
  have HR := Lib.hid hr
  have HL := Lib.hid hl
  clear hr hl
  go_enter Try.func20, Try.ntmps20
  go_wp2_with (with_reducible refine make8 _ rfl _ _ rfl _ rfl rfl ?_ ?_ ?_)
  · omega
  · omega
  intro v w1 ho hg
  have hG := Grows.made ho hg
  clear ho hg
  go_wp2_with fail
  go_loopw [5, 6, 7, 18] (fun v h c i wr => ∃ (k : Nat) (o : List UInt8) (hh cc : Nat), k ≤ n ∧ i = .int .i64 k ∧ h = .int .i64 hh ∧ c = .int .i64 cc ∧ SRel S w l k v o hh cc wr) (fun _ _ _ i _ => n - (intOf i).toNat)
  case atStart => exact ⟨0, [], 0, 0, Nat.zero_le _, rfl, rfl, rfl, hG, rfl, rfl, .inl ⟨rfl, by decide⟩⟩
  case round =>
    clear hG
    obtain ⟨k, o, hh, cc, hk, rfl, rfl, rfl, hSR⟩ := hrel
    by_cases hlt : k < n
    · obtain ⟨g, off, x, rfl, hg, hx, hc⟩ := (hSR.grows.rd HR.out).at8 hlt
      have hx8 : x.toNat < 256 := x.toNat_lt
      have hcc : cc ≤ 4 := by have := hSR.kind; omega
      have hhh : hh < 16 := by have := hSR.kind; omega
      have HX := Lib.hid hx
      have HS := Lib.hid hSR
      clear hSR hx
      have hor := or_join hh x.toNat (by omega) hx8
      go_wp2_with fail
      clear hor
      go_loopw [5, 6, 7] (fun v h c wr => ∃ (o : List UInt8) (h' c' : Nat), h = .int .i64 h' ∧ c = .int .i64 c' ∧ IRel S w k (st S (l.take (k + 1))) v o h' c' wr) (fun _ _ c _ => (intOf c).toNat)
      case atStart =>
        refine ⟨o, hh * 256 + x.toNat, cc + 8, by simp, by simp, HS.out.grows, ?_, ?_, ?_⟩
        · rw [take_more HX.out, st_snoc, HS.out.eq]; rfl
        · have := HS.out.cnt; omega
        · have := HS.out.kind; omega
      case round =>
        obtain ⟨o', h', c', rfl, rfl, hI⟩ := hrel
        by_cases h6 : c' < 6
        · have HI := Lib.hid hI
          clear hI
          go_wp2_with fail
          go_roundw
          case rel =>
            refine ⟨k + 1, o', h', c', by omega, by go_num, rfl, rfl, HI.out.grows, ?_, ?_, ?_⟩
            · rw [← HI.out.eq]; unfold drain; rw [if_neg (by omega), if_neg (by omega), if_neg (by omega), if_neg (by omega)]
            · have := HI.out.cnt; omega
            · have := HI.out.kind; omega
          case measure => simp [intOf]; omega
        · have hkind := hI.kind
          have HI := Lib.hid hI
          clear hI
          rcases hkind with h0 | ⟨rfl, hb⟩ | ⟨rfl, hb⟩ | ⟨rfl, hb⟩ | ⟨rfl, hb⟩
          · omega
          all_goals clear h6
          · have hlo : o'.length + 1 ≤ 1000000 := by have := HI.out.cnt; omega
            have hmk : bits .and .i64 (h' : Int) 0 = 0 := and_mask h' 0 0 (by omega) (by omega) (by simp)
            go_wp2_with (at_builtin; refine push8 wr rfl (.tmp 33) (.tmp 39) rfl w.heap.size u5 o' _ _ 1 rfl rfl HI.out.grows.own (sg_one S _ _) rfl HI.out.grows.size hlo ?_)
            intro v' w' ho hg'
            have hG := HI.out.grows.push ho hg'
            clear ho hg'
            go_wp2_with fail
            go_roundw
            case rel =>
              refine ⟨o' ++ [sg S (h')], 0, 0, by go_num, by go_num, hG, ?_, ?_, ?_⟩
              · rw [← HI.out.eq]; simp [drain]
              · have := HI.out.cnt; simp; omega
              · omega
            case measure => simp [intOf]
          · have hlo : o'.length + 1 ≤ 1000000 := by have := HI.out.cnt; omega
            have hmk : bits .and .i64 (h' : Int) 3 = ((h' % 4 : Nat) : Int) := and_mask h' 3 (h' % 4) (by omega) (by omega) (nat_mask2 h')
            go_wp2_with (at_builtin; refine push8 wr rfl (.tmp 33) (.tmp 39) rfl w.heap.size u5 o' _ _ 1 rfl rfl HI.out.grows.own (sg_one S _ _) rfl HI.out.grows.size hlo ?_)
            intro v' w' ho hg'
            have hG := HI.out.grows.push ho hg'
            clear ho hg'
            go_wp2_with fail
            go_roundw
            case rel =>
              refine ⟨o' ++ [sg S (h' / 4)], (h' % 4), 2, by go_num, by go_num, hG, ?_, ?_, ?_⟩
              · rw [← HI.out.eq]; simp [drain]
              · have := HI.out.cnt; simp; omega
              · omega
            case measure => simp [intOf]
          · have hlo : o'.length + 1 ≤ 1000000 := by have := HI.out.cnt; omega
            have hmk : bits .and .i64 (h' : Int) 15 = ((h' % 16 : Nat) : Int) := and_mask h' 15 (h' % 16) (by omega) (by omega) (nat_mask4 h')
            go_wp2_with (at_builtin; refine push8 wr rfl (.tmp 33) (.tmp 39) rfl w.heap.size u5 o' _ _ 1 rfl rfl HI.out.grows.own (sg_one S _ _) rfl HI.out.grows.size hlo ?_)
            intro v' w' ho hg'
            have hG := HI.out.grows.push ho hg'
            clear ho hg'
            go_wp2_with fail
            go_roundw
            case rel =>
              refine ⟨o' ++ [sg S (h' / 16)], (h' % 16), 4, by go_num, by go_num, hG, ?_, ?_, ?_⟩
              · rw [← HI.out.eq]; simp [drain]
              · have := HI.out.cnt; simp; omega
              · omega
            case measure => simp [intOf]
          · have hlo : o'.length + 1 ≤ 1000000 := by have := HI.out.cnt; omega
            have hmk : bits .and .i64 (h' : Int) 63 = ((h' % 64 : Nat) : Int) := and_mask h' 63 (h' % 64) (by omega) (by omega) (nat_mask6 h')
            go_wp2_with (at_builtin; refine push8 wr rfl (.tmp 33) (.tmp 39) rfl w.heap.size u5 o' _ _ 1 rfl rfl HI.out.grows.own (sg_one S _ _) rfl HI.out.grows.size hlo ?_)
            intro v' w' ho hg'
            have hG := HI.out.grows.push ho hg'
            clear ho hg'
            go_wp2_with fail
            go_roundw
            case rel =>
              refine ⟨o' ++ [sg S (h' / 64)], (h' % 64), 6, by go_num, by go_num, hG, ?_, ?_, ?_⟩
              · rw [← HI.out.eq]; simp [drain]
              · have := HI.out.cnt; simp; omega
              · omega
            case measure => simp [intOf]
    · have hkn : k = n := by omega
      subst hkn
      have hkind := hSR.kind
      have heq := hSR.eq
      have hcnt := hSR.cnt
      rw [List.take_of_length_le (by rw [HL.out]; omega)] at heq
      have HQ := Lib.hid heq
      have HG := Lib.hid hSR.grows
      clear hSR heq
      have hlo : o.length + 1 ≤ 1000000 := by omega
      rcases hkind with ⟨rfl, hb⟩ | ⟨rfl, hb⟩ | ⟨rfl, hb⟩
      · go_wp2_with fail
        go_ret
        refine ⟨_, rfl, ?_⟩
        have : signsL S l = o := by unfold signsL; rw [HQ.out]; rfl
        rw [this]; exact HG.out
      · go_wp2_with (at_builtin; refine push8 wr rfl (.tmp 49) (.tmp 56) rfl w.heap.size u5 o _ _ 1 rfl rfl HG.out.own (sg_one S _ _) rfl HG.out.size hlo ?_)
        intro v' w' ho hg'
        have hG := HG.out.push ho hg'
        clear ho hg'
        go_wp2_with fail
        go_ret
        refine ⟨_, rfl, ?_⟩
        have : signsL S l = o ++ [sg S (hh * 16)] := by unfold signsL; rw [HQ.out]; rfl
        rw [this]; exact hG
      · go_wp2_with (at_builtin; refine push8 wr rfl (.tmp 49) (.tmp 56) rfl w.heap.size u5 o _ _ 1 rfl rfl HG.out.own (sg_one S _ _) rfl HG.out.size hlo ?_)
        intro v' w' ho hg'
        have hG := HG.out.push ho hg'
        clear ho hg'
        go_wp2_with fail
        go_ret
        refine ⟨_, rfl, ?_⟩
        have : signsL S l = o ++ [sg S (hh * 4)] := by unfold signsL; rw [HQ.out]; rfl
        rw [this]; exact hG
end Go.Proofs.Ytpgpdckjnmpdoaa
