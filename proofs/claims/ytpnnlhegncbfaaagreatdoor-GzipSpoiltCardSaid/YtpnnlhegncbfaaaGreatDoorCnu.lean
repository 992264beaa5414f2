
/- Contracts of crc.shiftedByFour, crc.Add and crc.Of: the world stays as it is. -/
import Derived.Test.YtpnnlhegncbfaaaGreatDoorGroupA
import Derived.Test.YtpnnlhegncbfaaaGreatDoorCpu
namespace Go.Proofs.YtpnnlhegncbfaaaGreatDoor
set_option maxRecDepth 20000
open Go.RowKit

abbrev U32 (x : UInt32) : Value := .int .u32 (x.toNat : Int)
theorem u32_lt (x : UInt32) : x.toNat < 4294967296 := x.toNat_lt
/-- Under names that simp leaves alone. -/
def x32 (x y : UInt32) : UInt32 := x ^^^ y
def n32 (x : UInt32) : UInt32 := ~~~ x
def half (x : UInt32) : UInt32 := x >>> 1
theorem rx32 (x y : UInt32) : bits .xor .u32 (x.toNat : Int) (y.toNat : Int) = ((x32 x y).toNat : Int) := by
  rw [u32_xor_nat _ _ (u32_lt x) (u32_lt y), x32, UInt32.toNat_xor]
theorem rn32 (x : UInt32) : bits .xor .u32 (if IntKind.u32.signed = true then -1 else IntKind.u32.max) (x.toNat : Int) = ((n32 x).toNat : Int) := by
  have h1 : (if IntKind.u32.signed = true then (-1 : Int) else IntKind.u32.max) = (((4294967295 : UInt32).toNat : Nat) : Int) := by decide
  rw [h1, rx32, x32, UInt32.xor_comm, turn_xor]
  rfl
theorem rl32 (x : UInt32) : bits .and .u32 (x.toNat : Int) 15 = ((low4 x).toNat : Int) := by
  have := u32_and_nat x.toNat 15 (u32_lt x) (by decide)
  rw [low4, UInt32.toNat_and]
  exact this
theorem rq32 (x : UInt32) : (x.toNat : Int) / 16 = ((quarter x).toNat : Int) := by
  rw [quarter, UInt32.toNat_shiftRight]
  show _ = ((x.toNat >>> 4 : Nat) : Int)
  rw [Nat.shiftRight_eq_div_pow]
  omega
theorem rb32 (x : UInt8) : (x.toNat : Int) % 4294967296 = ((b32 x).toNat : Int) := by
  have : x.toNat < 256 := x.toNat_lt
  rw [b32, UInt32.toNat_ofNat']; omega
theorem rb32' (x : UInt8) : (x.toNat : Int) = ((b32 x).toNat : Int) := by
  have : x.toNat < 256 := x.toNat_lt
  rw [b32, UInt32.toNat_ofNat']; omega

/-- The table stands as the text lays it. -/
structure Tabs (w : World) : Prop where
  k : ∀ i, i < 16 → w.cell? ⟨0, i, none⟩ = some (U32 (nth ctb i))
  size : 1 ≤ w.heap.size
theorem Tabs.below {w w' : World} {B : Nat} (h : Tabs w) (hb : Below B w w') (hB : 1 ≤ B) : Tabs w' :=
  ⟨fun i hi => (hb.cell (p := ⟨0, i, none⟩) (by show 0 < B; omega)).trans (h.k i hi), Nat.le_trans h.size hb.size⟩

set_option maxHeartbeats 400000 in
theorem four_any (x : UInt32) (w : World) (ht : Tabs w) : Calls Tryz.prog 48 #[U32 x] w fun e w' => e = .returned (U32 (nib x)) ∧ w' = w := by
  have hl := low4_lt x
  have hk := ht.k (low4 x).toNat hl
  have e1 := rl32 x
  have e2 := rq32 x
  have e3 := rx32 (quarter x) (nth ctb (low4 x).toNat)
  obtain ⟨y, HY⟩ : ∃ y, RowKit.Hid (nth ctb (low4 x).toNat = y) := ⟨_, Lib.hid rfl⟩
  rw [HY.out] at hk e3
  obtain ⟨i, HI⟩ : ∃ i, RowKit.Hid ((low4 x).toNat = i) := ⟨_, Lib.hid rfl⟩
  rw [HI.out] at hk e1 hl
  obtain ⟨q, HQ⟩ : ∃ q, RowKit.Hid (quarter x = q) := ⟨_, Lib.hid rfl⟩
  rw [HQ.out] at e2 e3
  have HT := Lib.hid ht
  clear ht
  go_enter Tryz.func48, Tryz.ntmps48
  go_wp2_with fail
  go_ret
  refine ⟨?_, rfl⟩
  rw [nib, HY.out, HQ.out]
  rfl

set_option maxHeartbeats 400000 in
theorem add_any (s : UInt32) (A : Option Addr) (n c : Nat) (l : List UInt8) (w : World) (hr : Rd w w.heap.size A n (us l)) (ht : Tabs w) (hn : n ≤ 1000000) :
    Calls Tryz.prog 37 #[U32 s, .slice A n c] w fun e w' => e = .returned (U32 (addP s l)) ∧ w' = w := by
  have hl : l.length = n := by have := hr.1; rwa [us_length] at this
  have e0 := rn32
  have HL := Lib.hid hl
  have HR := Lib.hid hr
  have HT := Lib.hid ht
  clear hl hr ht
  go_enter Tryz.func37, Tryz.ntmps37
  go_wp2_with fail
  go_loopw [5, 12] (fun r i wr => ∃ k : Nat, k ≤ n ∧ r = U32 (reg (n32 s) (l.take k)) ∧ i = .int .i64 k ∧ wr = w) (fun _ i _ => n - (intOf i).toNat)
  case atStart => exact ⟨0, by omega, rfl, rfl, rfl⟩
  case round =>
    obtain ⟨k, hk, rfl, rfl, rfl⟩ := hrel
    by_cases hlt : k < n
    · have hdk : decide ((k : Int) < (n : Int)) = true := decide_eq_true (by omega)
      obtain ⟨g, o, x, rfl, hg, hx, hc⟩ := HR.out.at8 hlt
      obtain ⟨r, HRR⟩ : ∃ r, RowKit.Hid (reg (n32 s) (l.take k) = r) := ⟨_, Lib.hid rfl⟩
      rw [HRR.out]
      have HX := Lib.hid hx
      have e1 := rb32 x
      have e2 := rx32 r (b32 x)
      have HG := Lib.hid hg
      clear hx hg
      go_wp2_with fail
      refine (four_any _ _ HT.out).mono ?_
      rintro e w1 ⟨rfl, rfl⟩
      go_wp2_with fail
      refine (four_any _ _ HT.out).mono ?_
      rintro e w1 ⟨rfl, rfl⟩
      go_wp2_with fail
      go_roundw
      case rel => exact ⟨k + 1, by omega, by rw [reg_more _ _ _ _ HX.out, HRR.out, ← byte_nib]; rfl, by simp, trivial⟩
      case measure => simp [intOf]; omega
    · have hkn : k = n := by omega
      subst hkn
      have hdk : decide ((k : Int) < (k : Int)) = false := decide_eq_false (by omega)
      have HE : RowKit.Hid (addP s l = n32 (reg (n32 s) (l.take k))) := Lib.hid (by rw [List.take_of_length_le (by have := HL.out; omega)]; rfl)
      generalize reg (n32 s) (l.take k) = r at HE ⊢
      go_wp2_with fail
      go_ret
      exact ⟨by rw [HE.out]; rfl, rfl⟩

set_option maxHeartbeats 400000 in
theorem cof_any (A : Option Addr) (n c : Nat) (l : List UInt8) (w : World) (hr : Rd w w.heap.size A n (us l)) (ht : Tabs w) (hn : n ≤ 1000000) :
    Calls Tryz.prog 22 #[.slice A n c] w fun e w' => e = .returned (U32 (addP 0 l)) ∧ w' = w := by
  have HR := Lib.hid hr
  have HT := Lib.hid ht
  clear hr ht
  go_enter Tryz.func22, Tryz.ntmps22
  go_wp2_with fail
  refine (add_any 0 A n c l w HR.out HT.out hn).mono ?_
  rintro e w1 ⟨rfl, rfl⟩
  go_wp2_with fail
  go_ret
  exact ⟨rfl, rfl⟩
end Go.Proofs.YtpnnlhegncbfaaaGreatDoor
