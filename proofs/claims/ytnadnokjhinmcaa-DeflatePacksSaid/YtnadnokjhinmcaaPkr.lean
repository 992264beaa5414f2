/- Contracts of the packer's small methods: number, sign, begin. -/
import Derived.Test.YtnadnokjhinmcaaWm2
import Derived.Test.YtnadnokjhinmcaaPut
import Derived.Test.YtnadnokjhinmcaaUtk
import Derived.StillTailTactics
namespace Go.Proofs.Ytnadnokjhinmcaa
open Go.RowKit

theorem pass_nil (w : World) : Calls Try.prog 51 #[.nilIface] w fun e w' => e = .returned (.tuple #[]) ∧ w = w' := by
  go_enter Try.func51, Try.ntmps51
  go_wp2_with fail
  go_end0
  exact ⟨rfl, rfl⟩
/-- A packer, as it is handed on. -/
abbrev pkV (gw : Nat) (pa pb : Option Addr) : Value := .agg #[.pointer (some ⟨gw, 0, none⟩), .pointer pa, .pointer pb]
theorem WM.grow {w w' : World} {B g : Nat} {v : Value} {m : List UInt8} (h : WM w B g v m) (hg : w.grownBy w' none) : WM w' B g v m := h.kept hg (by simp) (ne_none v)
set_option maxHeartbeats 1000000 in
set_option maxRecDepth 10000 in
theorem number_any2 (gw B : Nat) (pa pb : Option Addr) (x k : Nat) (m : List UInt8) (v : Value) (w : World) (hW : WM w B gw v m) (hB : B ≤ w.heap.size) (hk : k ≤ 32) (hx : x < 2 ^ k) (hL : m.length ≤ 7000000) :
    Calls Try.prog 50 #[pkV gw pa pb, .int .i64 (x : Int), .int .i64 (k : Int)] w fun e w' => e = .returned (.tuple #[]) ∧ ∃ v', WM w' B gw v' (m ++ lowB x k) ∧ St w gw v w' v' := by
  have hx32 : x < 4294967296 := Nat.lt_of_lt_of_le hx (by have := Nat.pow_le_pow_right (show 0 < 2 by decide) hk; simpa using this)
  have hxm : (x : Int) % 4294967296 = (x : Int) := by omega
  have HOK : RowKit.Hid (okP x (k : Int) = true) := Lib.hid (decide_eq_true ⟨by omega, by omega, by rw [Int.toNat_natCast]; exact hx⟩)
  have hg1 := World.grownBy_alloc w (.cells #[.pointer (some ⟨gw, 0, none⟩), .pointer pa, .pointer pb] 80) none
  have HP := Lib.hid (put_any B gw x (k : Int) m v (w.alloc (.cells #[.pointer (some ⟨gw, 0, none⟩), .pointer pa, .pointer pb] 80)) (hW.grow hg1) (Nat.le_trans hB hg1.size) hL)
  rw [putE_ok HOK.out, putB_low HOK.out, Int.toNat_natCast] at HP
  have HS := Lib.hid (St.none (g := gw) (v := v) hg1)
  clear hW hB hL hg1
  go_enter Try.func50, Try.ntmps50
  go_wp2_with fail
  refine HP.out.mono ?_
  rintro e w2 ⟨rfl, v', hW2, hS2⟩
  have HF := Lib.hid (And.intro hW2 (HS.out.trans hS2))
  rw [show errV 0 = .nilIface from rfl]
  clear hW2 hS2 HP
  go_wp2_with fail
  refine (pass_nil w2).mono ?_
  rintro e wz ⟨rfl, rfl⟩
  go_wp2_with fail
  go_end0
  exact ⟨rfl, v', HF.out.1, HF.out.2⟩
set_option maxHeartbeats 1000000 in
set_option maxRecDepth 10000 in
theorem sign_any2 (K g B gw : Nat) (pa pb : Option Addr) (ls : List Nat) (s : Nat) (m : List UInt8) (v : Value) (w : World) (hc : HC w K g ls) (hK : K ≤ w.heap.size) (hs : lenAt ls s ≠ 0) (hW : WM w B gw v m) (hB : B ≤ w.heap.size) (hL : m.length ≤ 7000000) :
    Calls Try.prog 47 #[pkV gw pa pb, .pointer (some ⟨g, 0, none⟩), .int .i64 (s : Int)] w fun e w' => e = .returned (.tuple #[]) ∧ ∃ v', WM w' B gw v' (m ++ bitsO ls (s : Int)) ∧ St w gw v w' v' := by
  have hg1 := World.grownBy_alloc w (.cells #[.pointer (some ⟨gw, 0, none⟩), .pointer pa, .pointer pb] 80) none
  have HP := Lib.hid (hput_any K g B gw ls (s : Int) m v (w.alloc (.cells #[.pointer (some ⟨gw, 0, none⟩), .pointer pa, .pointer pb] 80)) (hc.grown hK hg1 (fun k hk => by cases hk)) (hW.grow hg1) (Nat.le_trans hB hg1.size) hL)
  rw [show ofE ls (s : Int) = 0 by unfold ofE; rw [if_neg (by rw [lenI_nat]; exact hs)]] at HP
  have HS := Lib.hid (St.none (g := gw) (v := v) hg1)
  clear hc hK hs hW hB hL hg1
  go_enter Try.func47, Try.ntmps47
  go_wp2_with fail
  refine HP.out.mono ?_
  rintro e w2 ⟨rfl, v', hW2, hS2⟩
  have HF := Lib.hid (And.intro hW2 (HS.out.trans hS2))
  rw [show errV 0 = .nilIface from rfl]
  clear hW2 hS2 HP
  go_wp2_with fail
  refine (pass_nil w2).mono ?_
  rintro e wz ⟨rfl, rfl⟩
  go_wp2_with fail
  go_end0
  exact ⟨rfl, v', HF.out.1, HF.out.2⟩
set_option maxHeartbeats 1000000 in
set_option maxRecDepth 10000 in
theorem begin_any2 (gw B : Nat) (pa pb : Option Addr) (last : Bool) (k : Nat) (m : List UInt8) (v : Value) (w : World) (hW : WM w B gw v m) (hB : B ≤ w.heap.size) (hk : k < 4) (hL : m.length ≤ 6999990) :
    Calls Try.prog 45 #[pkV gw pa pb, .bool last, .int .i64 (k : Int)] w fun e w' => e = .returned (.tuple #[]) ∧ ∃ v', WM w' B gw v' (m ++ (lowB (if last then 1 else 0) 1 ++ lowB k 2)) ∧ St w gw v w' v' := by
  have hg1 := World.grownBy_alloc w (.cells #[.pointer (some ⟨gw, 0, none⟩), .pointer pa, .pointer pb] 80) none
  have HW1 := Lib.hid (hW.grow hg1)
  have HS1 := Lib.hid (St.none (g := gw) (v := v) hg1)
  have HB1 := Lib.hid (Nat.le_trans hB hg1.size)
  have HR := Lib.hid (show Row (w.alloc (.cells #[.pointer (some ⟨gw, 0, none⟩), .pointer pa, .pointer pb] 80)) w.heap.size #[.pointer (some ⟨gw, 0, none⟩), .pointer pa, .pointer pb] 80 from heap_alloc_new w _)
  have HN : RowKit.Hid (gw ≠ w.heap.size ∧ ∀ b, v.ownBlock = some b → b ≠ w.heap.size) := Lib.hid ⟨by have := hW.wr.row.lt; omega, fun b hb => by have := (World.ownsRow.lt hW.wr.own b hb).2; omega⟩
  have HL := Lib.hid hL
  clear hW hB hg1 hL
  have HNUM := Lib.hid (number_any2 gw B pa pb (if last then 1 else 0) 1 m v _ HW1.out HB1.out (by omega) (by split <;> decide) (by have := HL.out; omega))
  go_enter Try.func45, Try.ntmps45
  cases last <;>
  · go_wp2_with fail
    refine HNUM.out.mono ?_
    rintro e w2 ⟨rfl, v2, hW2, hS2⟩
    have hr2 : Row w2 w.heap.size #[.pointer (some ⟨gw, 0, none⟩), .pointer pa, .pointer pb] 80 := by
      unfold Row
      rw [hS2.block w.heap.size (by simp) (fun e => HN.out.1 e.symm) (fun e => HN.out.2 _ e rfl)]
      exact HR.out
    have c0 : w2.cell? ⟨w.heap.size, 0, none⟩ = some (.pointer (some ⟨gw, 0, none⟩)) := hr2.cell 0
    have c1 : w2.cell? ⟨w.heap.size, 1, none⟩ = some (.pointer pa) := hr2.cell 1
    have c2 : w2.cell? ⟨w.heap.size, 2, none⟩ = some (.pointer pb) := hr2.cell 2
    have HW2 := Lib.hid hW2
    have HS2 := Lib.hid (HS1.out.trans hS2)
    have HB2 := Lib.hid (Nat.le_trans HB1.out hS2.size)
    clear hW2 hS2 hr2 HNUM
    go_wp2_with fail
    refine (number_any2 gw B pa pb k 2 _ v2 w2 HW2.out HB2.out (by omega) (by omega) (by have := HL.out; simp [lowB_length]; omega)).mono ?_
    rintro e w3 ⟨rfl, v3, hW3, hS3⟩
    have HW3 := Lib.hid hW3
    have HS3 := Lib.hid (HS2.out.trans hS3)
    clear hW3 hS3 c0 c1 c2
    go_wp2_with fail
    go_end0
    exact ⟨rfl, v3, by rw [← List.append_assoc]; exact HW3.out, HS3.out⟩
end Go.Proofs.Ytnadnokjhinmcaa
