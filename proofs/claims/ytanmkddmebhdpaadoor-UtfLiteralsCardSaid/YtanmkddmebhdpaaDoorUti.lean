/- Contracts of strings.IndexByte, and of strings.IndexRune at the signs that have an escape of a letter. -/
import Derived.Test.YtanmkddmebhdpaaDoorUta
import Derived.Lib.OthersKept
import Derived.Lib.Bytealg
import Derived.Lib.Strings
import Derived.Laws.Strings3
import Derived.BigCall
import Derived.BigQuiet
namespace Go.Proofs.YtanmkddmebhdpaaDoor
set_option maxRecDepth 20000
open Go.RowKit Go.Lib

set_option maxHeartbeats 1000000 in
theorem ixb0 (s : ByteArray) (c : Int) (w : World) :
    Calls Tryd.prog 42 #[.string s, .int .u8 c] w fun e w' => e = .returned (.int .i64 (Lib.indexByte s.data.toList c.toNat.toUInt8)) ∧ w' = w := by
  go_enter Tryd.func42, Tryd.ntmps42
  go_wp2
  rw [run_callFunc_extern Tryd.func47 (by kernel_rfl) (by kernel_rfl) (by kernel_rfl) (e := Extern.BytealgIndexByte.indexByte) (by kernel_rfl), Lib.run_indexByteString]
  simp only [Result.andThen]
  rw [Oper.upon_value]
  go_wp2
  go_ret
  exact ⟨rfl, rfl⟩
set_option maxHeartbeats 1000000 in
theorem ixb (s : ByteArray) (c : Int) (w : World) :
    Calls Tryd.prog 34 #[.string s, .int .u8 c] w fun e w' => e = .returned (.int .i64 (Lib.indexByte s.data.toList c.toNat.toUInt8)) ∧ w' = w := by
  have H := Lib.hid (ixb0 s c w)
  go_enter Tryd.func34, Tryd.ntmps34
  go_wp2_with fail
  refine H.out.mono ?_
  rintro e wz ⟨rfl, rfl⟩
  go_wp2_with fail
  go_ret
  exact ⟨rfl, rfl⟩
/-- Which of the signs with a letter it is; -1: none. -/
def idxP (c : Nat) : Int := if signsL.idxOf c < 7 then (signsL.idxOf c : Int) else -1
def signsB : ByteArray := ⟨#[34, 92, 8, 12, 10, 13, 9]⟩
theorem idx_low (c : Nat) (h : c < 128) : Lib.indexByte signsB.data.toList ((c : Int).toNat.toUInt8) = idxP c := by
  have : ∀ c : Fin 128, Lib.indexByte signsB.data.toList (((c.val : Nat) : Int).toNat.toUInt8) = idxP c.val := by decide +kernel
  exact this ⟨c, h⟩
theorem idx_high (c : Nat) (h : 128 ≤ c) : idxP c = -1 := by
  unfold idxP
  rw [if_neg]
  intro h2
  have hm : c ∈ signsL := List.idxOf_lt_length_iff.1 h2
  simp only [signsL, List.mem_cons, List.not_mem_nil, or_false] at hm
  omega
theorem dec_signs (p : Nat) (h : p < 7) : (Utf8.decode signsB p).2 = 1 ∧ (Utf8.decode signsB p).1 < 128 := by
  have : ∀ p : Fin 7, (Utf8.decode signsB p.val).2 = 1 ∧ (Utf8.decode signsB p.val).1 < 128 := by decide +kernel
  exact this ⟨p, h⟩
set_option maxHeartbeats 1000000 in
theorem ixr_low (c : Nat) (w : World) (h : c < 128) :
    Calls Tryd.prog 37 #[.string signsB, .int .i32 (c : Int)] w fun e w' => e = .returned (.int .i64 (idxP c)) ∧ w' = w := by
  have H := Lib.hid (ixb signsB (c : Int) w)
  rw [idx_low c h] at H
  have d1 : decide ((0 : Int) ≤ (c : Int)) = true := decide_eq_true (by omega)
  have d2 : decide ((c : Int) < 128) = true := decide_eq_true (by omega)
  have e1 : (c : Int) % 256 = (c : Int) := by omega
  clear h
  go_enter Tryd.func37, Tryd.ntmps37
  go_wp2_with fail
  refine H.out.mono ?_
  rintro e wz ⟨rfl, rfl⟩
  go_wp2_with fail
  go_ret
  exact ⟨rfl, rfl⟩
set_option maxHeartbeats 1000000 in
theorem ixr_bad (w : World) :
    Calls Tryd.prog 37 #[.string signsB, .int .i32 65533] w fun e w' => e = .returned (.int .i64 (-1)) ∧ Below w.heap.size w w' := by
  have hz : signsB.size = 7 := rfl
  have HD := Lib.hid dec_signs
  generalize signsB = sb at hz HD ⊢
  go_enter Tryd.func37, Tryd.ntmps37
  go_wp2_with fail
  go_loopw [] (fun wr => ∃ p : Nat, p ≤ 7 ∧ wr.heap[w.heap.size]? = some (.stringIter sb p) ∧ Below w.heap.size w wr) (fun wr => 7 - wr.iterPos w.heap.size)
  case atStart => exact ⟨0, by omega, World.iter_heap w sb 0, (Below.refl _ w).alloc (Nat.le_refl _) _⟩
  case round =>
    obtain ⟨p, hp, hit, hbw⟩ := hrel
    have HBW := Lib.hid hbw
    clear hbw
    by_cases hlt : p < 7
    · have hd := HD.out p hlt
      have hnx : ∀ ty, (Instr.next (.pointer (some ⟨w.heap.size, 0, none⟩)) true ty).run Tryd.prog wr = _ := fun ty => Lib.run_next_any_at wr w.heap.size sb p ty hit (by omega)
      rw [hd.1] at hnx
      obtain ⟨x, hx⟩ : ∃ x, (Utf8.decode sb p).1 = x := ⟨_, rfl⟩
      rw [hx] at hnx hd
      have hne : ((x : Int) == 65533) = false := by rw [beq_eq_false_iff_ne]; omega
      have HBX := Lib.hid (Lib.below_iterAt HBW.out (k := w.heap.size) (Nat.le_refl _) sb (p + 1))
      have HIX := Lib.hid (Lib.iterAt_heap wr w.heap.size sb p (p + 1) hit)
      have HPO : RowKit.Hid (wr.iterPos w.heap.size = p) := Lib.hid (by simp only [World.iterPos, hit])
      clear hit hd hx
      go_wp2_with fail
      go_roundw
      case rel => exact ⟨p + 1, by omega, HIX.out, HBX.out⟩
      case measure =>
        rw [HPO.out]
        simp only [World.iterPos, HIX.out]
        omega
    · have hnx : ∀ ty, (Instr.next (.pointer (some ⟨w.heap.size, 0, none⟩)) true ty).run Tryd.prog wr = _ := fun ty => Lib.run_next_end_at wr w.heap.size sb p ty hit (by omega)
      clear hit
      go_wp2_with fail
      go_ret
      exact ⟨rfl, HBW.out⟩
end Go.Proofs.YtanmkddmebhdpaaDoor
