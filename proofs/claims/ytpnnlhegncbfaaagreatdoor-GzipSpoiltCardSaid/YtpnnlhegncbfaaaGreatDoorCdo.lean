
/- Contract of deflate's codeOf at the fixed lengths. -/
import Derived.Test.YtpnnlhegncbfaaaGreatDoorTkp
import Derived.Test.YtpnnlhegncbfaaaGreatDoorGroupG
import Derived.Test.YtpnnlhegncbfaaaGreatDoorGroupI
namespace Go.Proofs.YtpnnlhegncbfaaaGreatDoor
set_option maxRecDepth 20000
open Go.RowKit

def ints64 (ls : List Nat) : List Int := ls.map Int.ofNat
theorem nats_ints (ls : List Nat) : nats (ints64 ls) = ls := by
  unfold nats ints64
  rw [List.map_map]
  exact (List.map_congr_left (g := id) (fun x _ => rfl)).trans (List.map_id ls)
theorem ints_length (ls : List Nat) : (ints64 ls).length = ls.length := by simp [ints64]
theorem newA : newE (ints64 fixA) false = 0 := by decide +kernel
theorem newB : newE (ints64 fixB) false = 0 := by decide +kernel
theorem is_fixA : is (ints64 fixA) = (ia fixL 288).toList := by kernel_rfl
theorem is_fixB : (ia (fun _ => 5) 30).toList = is (List.replicate 30 5) := by kernel_rfl
theorem fixB_ints : ints64 fixB = List.replicate 30 5 ++ [5, 5] := by kernel_rfl
theorem HL.wide {w : World} {lo lo' B B' g : Nat} {l : List Nat} (h : HL w lo B g l) (h1 : lo' ≤ lo) (h2 : B ≤ B') : HL w lo' B' g l :=
  fun w' ha => (h w' (fun k k1 k2 => ha k (Nat.le_trans h1 k1) (Nat.lt_of_lt_of_le k2 h2))).more h2
set_option maxHeartbeats 1000000 in
set_option maxRecDepth 10000 in
theorem codeOf_any (A : Option Addr) (n c : Nat) (ls : List Nat) (w : World) (hr : Rd w w.heap.size A n (is (ints64 ls))) (hA : A = none → c = 0) (hn : ls.length ≤ 320) (h0 : newE (ints64 ls) false = 0) :
    Calls Tryz.prog 60 #[.slice A n c] w fun e w' => Below w.heap.size w w' ∧ ∃ a, e = .returned (.pointer (some ⟨a, 0, none⟩)) ∧ HL w' w.heap.size w'.heap.size a ls := by
  have hn2 : n = ls.length := by have := hr.1; rw [is_length, ints_length] at this; exact this.symm
  have HC := Lib.hid (new_full A n c (ints64 ls) false w hr hA (by omega))
  have H0 := Lib.hid h0
  clear hr hA hn2 h0
  go_enter Tryz.func60, Tryz.ntmps60
  go_wp2_with fail
  refine HC.out.mono ?_
  rintro e w1 ⟨⟨hb, _, h2⟩, h3⟩
  obtain ⟨a, rfl, _⟩ := h2 H0.out
  have HF := Lib.hid (h3 a rfl H0.out)
  rw [nats_ints] at HF
  have HB := Lib.hid hb
  clear h2 h3 hb HC
  go_wp2_with fail
  refine (pass_nil w1).mono ?_
  rintro e w2 ⟨rfl, rfl⟩
  go_wp2_with fail
  go_ret
  exact ⟨HB.out, a, rfl, HF.out⟩
end Go.Proofs.YtpnnlhegncbfaaaGreatDoor
