/- Contract of uscale. -/
import Derived.Test.YtfebfkbdbncihaaGreatDoorNta
import Derived.Deep.RegionHeld3
import Derived.BigQuiet
namespace Go.Proofs.YtfebfkbdbncihaaGreatDoor
set_option maxRecDepth 100000
open Go.RowKit

def sh63 (s : Int) : Nat := (bits .and .i64 s 63).toNat
/-- What uscale answers, of x and the three cells of a scaler. -/
def uscZ (x hi lo : Nat) (s : Int) : Int :=
  if (IntKind.u64.wrap (((x * hi / 18446744073709551616 : Nat) : Int) / 2 ^ sh63 s * 2 ^ sh63 s) != ((x * hi / 18446744073709551616 : Nat) : Int)) = true then
    bits .or .u64 (((x * hi / 18446744073709551616 : Nat) : Int) / 2 ^ sh63 s) 1
  else bits .or .u64 (IntKind.u64.wrap (((x * hi / 18446744073709551616 : Nat) : Int) - b2z (decide (x * hi % 18446744073709551616 < x * lo / 18446744073709551616))) / 2 ^ sh63 s)
    (b2z (decide (1 < IntKind.u64.wrap (((x * hi % 18446744073709551616 : Nat) : Int) - ((x * lo / 18446744073709551616 : Nat) : Int)))))
theorem uscZ_w (x hi lo : Nat) (s : Int) : W64 (uscZ x hi lo s) := by
  unfold uscZ
  split <;> exact bits64 _ _ _
set_option maxHeartbeats 1000000 in
theorem usc_any (x hi lo : Nat) (s : Int) (g : Nat) (w : World) (hx : x < 18446744073709551616) (hh : hi < 18446744073709551616) (hlo : lo < 18446744073709551616) (hr : Row w g #[.int .u64 (hi : Int), .int .u64 (lo : Int), .int .i64 s] 185) :
    Calls Tryz.prog 140 #[.int .u64 (x : Int), .pointer (some ⟨g, 0, none⟩)] w fun e w' => e = .returned (.int .u64 (uscZ x hi lo s)) ∧ ∃ k, w' = w.drewN k := by
  have n0 : w.cell? ⟨g, 0, none⟩ = some (.int .u64 (hi : Int)) := hr.cell 0
  have n1 : w.cell? ⟨g, 1, none⟩ = some (.int .u64 (lo : Int)) := hr.cell 1
  have n2 : w.cell? ⟨g, 2, none⟩ = some (.int .i64 s) := hr.cell 2
  obtain ⟨k0, hk0, hk63⟩ := and63 s
  have hk : bits .and .i64 s 63 = ((sh63 s : Nat) : Int) := by unfold sh63; rw [hk0]; rfl
  have hk64 : sh63 s ≤ 63 := by unfold sh63; rw [hk0]; exact hk63
  have HM1 := Lib.hid (mul_any x hi hx hh)
  have HM2 := Lib.hid (mul_any x lo hx hlo)
  have HU : RowKit.Hid (uscZ x hi lo s = _) := Lib.hid rfl
  unfold uscZ at HU ⊢
  generalize x * hi / 18446744073709551616 = H at HM1 ⊢
  generalize x * hi % 18446744073709551616 = M at HM1 ⊢
  generalize x * lo / 18446744073709551616 = M2 at HM2 ⊢
  generalize x * lo % 18446744073709551616 = M3 at HM2
  generalize sh63 s = k at hk hk64 ⊢
  clear hr hk0 hk63 HU
  cases ht : (IntKind.u64.wrap ((H : Int) / 2 ^ k * 2 ^ k) != (H : Int))
  · rw [if_neg (by decide)]
    obtain ⟨H2, hH2⟩ : ∃ H2, IntKind.u64.wrap ((H : Int) - b2z (decide (M < M2))) = H2 := ⟨_, rfl⟩
    obtain ⟨b2, hb2⟩ : ∃ b2, b2z (decide (1 < IntKind.u64.wrap ((M : Int) - (M2 : Int)))) = b2 := ⟨_, rfl⟩
    have HB2 := Lib.hid hb2
    rw [hH2, hb2]
    clear hb2
    go_enter Tryz.func140, Tryz.ntmps140
    go_wp2_with (first | (go_at_call 90; (with_reducible refine (HM1.out _).mono ?_); rintro e w2 ⟨rfl, rfl⟩) | (go_at_call 90; (with_reducible refine (HM2.out _).mono ?_); rintro e w2 ⟨rfl, rfl⟩) | (go_at_call 122; refine (b2u_any _ _).mono ?_; rintro e w2 ⟨rfl, rfl⟩))
    go_quiet (first | (go_at_call 122; exact Calls.quiet_of_same (b2u_any _ _)))
    go_wp2_with fail
    go_ret
    refine ⟨?_, _, rfl⟩
    rw [← HB2.out]
    rfl
  · rw [if_pos rfl]
    go_enter Tryz.func140, Tryz.ntmps140
    go_wp2_with (first | (go_at_call 90; (with_reducible refine (HM1.out _).mono ?_); rintro e w2 ⟨rfl, rfl⟩))
    go_ret
    exact ⟨rfl, 0, rfl⟩
end Go.Proofs.YtfebfkbdbncihaaGreatDoor
