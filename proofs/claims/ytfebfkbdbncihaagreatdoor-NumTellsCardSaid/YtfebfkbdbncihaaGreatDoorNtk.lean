/- Contract of FormatFloat, at floats that are no infinities and not 0. -/
import Derived.Test.YtfebfkbdbncihaaGreatDoorNtj
namespace Go.Proofs.YtfebfkbdbncihaaGreatDoor
set_option maxRecDepth 100000
open Go.RowKit

/-- A float's text, by its word. -/
def ftW (x : Nat) : List UInt8 := ffL (negW x) (if x / 2 ^ 52 % 2048 = 0 then 1 else x / 2 ^ 52 % 2048) (if x / 2 ^ 52 % 2048 = 0 then x % 2 ^ 52 else x % 2 ^ 52 + 2 ^ 52)
theorem ftoa_any (x : Nat) (A : Option Addr) (c N : Nat) (w : World) (hx : x < 2 ^ 64) (hn : 0 < rung x) (hi : rung x < infR) (ho : Own w N (.slice A 0 c) []) (hN : N ≤ w.heap.size) (ht : PTab w) (hts : NTabs w) :
    Calls Tryz.prog 78 #[.slice A 0 c, .float .f64 x, .int .u8 101, .int .i64 (-1)] w fun e w' => ∃ v', e = .returned v' ∧ Own w' N v' (ftW x) ∧ Below N w w' := by
  unfold rung at hn hi
  unfold infR at hi
  exact ftoa_core x (x / 2 ^ 52 % 2048) (x % 2 ^ 52) (negW x) A c N w (and_exp x hx) (and_man x hx) (by
    unfold negW
    rw [Bool.eq_iff_iff, bne_iff_ne, beq_iff_eq]
    omega) (by omega) (by omega) (by omega) hx ho hN ht hts
set_option maxHeartbeats 1000000 in
theorem ff49 (x : Nat) (w : World) (hx : x < 2 ^ 64) (hn : 0 < rung x) (hi : rung x < infR) (ht : PTab w) (hts : NTabs w) :
    Calls Tryz.prog 49 #[.float .f64 x, .int .u8 101, .int .i64 (-1), .int .i64 64] w fun e w' => e = .returned (.string (tx (ftW x))) ∧ Below w.heap.size w w' := by
  have HF := Lib.hid (fun A c wx (hb : Below w.heap.size w wx) (ho : Own wx w.heap.size (.slice A 0 c) []) => ftoa_any x A c w.heap.size wx hx hn hi ho hb.size (ht.below hb) (hts.below hb))
  clear hn hi ht hts
  generalize ftW x = TX at HF ⊢
  go_enter Tryz.func49, Tryz.ntmps49
  go_wp2_with (with_reducible refine make8 _ rfl _ _ rfl _ rfl rfl ?_ ?_ ?_)
  · decide
  · decide
  intro v1 w1 ho1 hg1
  obtain ⟨A1, c1, rfl⟩ := ho1.slice
  have hb1 : Below w.heap.size w w1 := below_make hg1
  have HC := Lib.hid (HF.out A1 c1 w1 hb1 ho1)
  have HB1 := Lib.hid hb1
  clear HF ho1 hg1 hb1
  go_wp2_with (go_at_call 78; refine HC.out.mono ?_; rintro e w2 ⟨v2, rfl, ho2, hb2⟩; obtain ⟨A2, c2, rfl⟩ := ho2.slice; have hst := str8 w2 w2.heap.size A2 _ c2 _ ho2.rd.2)
  go_ret
  exact ⟨rfl, HB1.out.trans hb2⟩
set_option maxHeartbeats 1000000 in
theorem ff36 (x : Nat) (w : World) (hx : x < 2 ^ 64) (hn : 0 < rung x) (hi : rung x < infR) (ht : PTab w) (hts : NTabs w) :
    Calls Tryz.prog 36 #[.float .f64 x, .int .u8 101, .int .i64 (-1), .int .i64 64] w fun e w' => e = .returned (.string (tx (ftW x))) ∧ Below w.heap.size w w' := by
  have HF := Lib.hid (ff49 x w hx hn hi ht hts)
  clear hn hi ht hts
  go_enter Tryz.func36, Tryz.ntmps36
  go_wp2_with (go_at_call 49; refine HF.out.mono ?_; rintro e w2 ⟨rfl, hb2⟩)
  go_ret
  exact ⟨rfl, hb2⟩
end Go.Proofs.YtfebfkbdbncihaaGreatDoor
