/- The law GzipSpoilt. -/
import Derived.Test.YtpnnlhegncbfaaaGreatDoorGzx
namespace Go.Proofs.YtpnnlhegncbfaaaGreatDoor
set_option maxRecDepth 20000
open Go.RowKit

set_option maxHeartbeats 4000000 in
theorem gspo_any (A : Option Addr) (n c : Nat) (l : List UInt8) (x1 x2 : Int) (w : World) (hr : Rd w w.heap.size A n (us l)) (hA : A = none → c = 0) (hc : n ≤ c) (ht : Tab w) (hts : Tabs w) (h0 : 2 < w.heap.size) :
    Calls Tryz.prog 5 #[.slice A n c, .int .i64 x1, .int .i64 x2] w fun e w' => e = .returned (.bool true) ∧ Below w.heap.size w w' := by
  have hl : l.length = n := by have := hr.1; rwa [us_length] at this
  have HL := Lib.hid hl
  have HR := Lib.hid hr
  have HA := Lib.hid (And.intro hA hc)
  have HT := Lib.hid (And.intro ht (And.intro hts h0))
  have HAL := Lib.hid (alive_gz w hts)
  obtain ⟨u, hu, hu64⟩ : ∃ u : Nat, IntKind.u64.wrap x2 = (u : Int) ∧ u < 18446744073709551616 := by
    rw [IntKind.wrap_u64]
    exact ⟨(x2 % 18446744073709551616).toNat, by omega, by omega⟩
  clear hr hA hc ht hts h0 hl
  go_enter Tryz.func5, Tryz.ntmps5
  go_wp2_with fail
  refine HAL.out.mono ?_
  rintro e w1 ⟨rfl, hb1⟩
  have HB1 := Lib.hid hb1
  clear hb1 HAL
  by_cases hn6 : 600 < n
  · have d0 : decide (600 < (n : Int)) = true := decide_eq_true (by omega)
    have d0n : decide (600 < n) = true := decide_eq_true hn6
    clear hu hu64 hn6
    go_wp2_with fail
    go_ret
    exact ⟨rfl, HB1.out⟩
  have d0 : decide (600 < (n : Int)) = false := decide_eq_false (by omega)
  have d0n : decide (600 < n) = false := decide_eq_false hn6
  have HU := Lib.hid (And.intro hu hu64)
  clear hu hu64
  go_wp2_with fail
  have HZ0 := Lib.hid (mode_ok x1)
  generalize wrap64 ((IntKind.u64.wrap x1).tmod 3) = z0 at HZ0 ⊢
  have HP := Lib.hid (gpack_any A n c l z0 w1 (HR.out.next HB1.out) HA.out.1 (by omega) HA.out.2 HZ0.out (HT.out.2.1.below HB1.out (by have := HT.out.2.2; omega)))
  obtain ⟨X, hX⟩ : ∃ X, gzP l z0 = X := ⟨_, rfl⟩
  obtain ⟨xl, hxl⟩ : ∃ xl, X.length = xl := ⟨_, rfl⟩
  have hxb : 18 ≤ xl ∧ xl ≤ 320000 := by
    rw [← hxl, ← hX, gz_len]
    have := packT_le l z0 (by have := HL.out; omega)
    omega
  obtain ⟨j, hj⟩ : ∃ j, u % 8 = j := ⟨_, rfl⟩
  have hj8 : j < 8 := by omega
  obtain ⟨dd, hdd⟩ : ∃ dd, u / 8 % 255 = dd := ⟨_, rfl⟩
  have hd255 : dd < 255 := by omega
  obtain ⟨d, hd⟩ : ∃ d : UInt8, d.toNat = 1 + dd := ⟨UInt8.ofNat (1 + dd), by rw [UInt8.toNat_ofNat']; omega⟩
  have hdne : d ≠ 0 := by
    intro e
    rw [e] at hd
    have : (0 : UInt8).toNat = 0 := rfl
    omega
  obtain ⟨S, Z, hset, hS, hZ, hcase⟩ := spoilt l z0 j d hj8 hdne (by have := HL.out; omega)
  rw [hX, hxl] at hset
  rw [hX] at HP
  obtain ⟨kk, hkk⟩ : ∃ kk, xl - 8 + j = kk := ⟨_, rfl⟩
  rw [hkk] at hset
  have HSE := Lib.hid (And.intro hset (And.intro hS hZ))
  have HCA := Lib.hid hcase
  have HXL := Lib.hid hxl
  clear hX hset hS hZ hcase hdne
  refine HP.out.mono ?_
  rintro e w3 ⟨v3, rfl, ho3, hb3⟩
  obtain ⟨g, k3, x, hv3, hxk, hcell⟩ := ho3.at8 (k := kk) (by omega)
  rw [hxl] at hv3
  subst hv3
  have hown := ho3
  unfold Own at hown
  rw [hxl] at hown
  have hfz := World.ownsRow.frozenAt hown kk
  have HOW := Lib.hid hown
  clear hown
  have HGD : RowKit.Hid (X.getD kk 0 = x) := Lib.hid (by simp [List.getD, hxk])
  have HO3 := Lib.hid ho3
  have HB3 := Lib.hid hb3
  clear ho3 hb3 hxk HP hxl
  obtain ⟨y, hy⟩ : ∃ y, x ^^^ d = y := ⟨_, rfl⟩
  have HYY := Lib.hid hy
  obtain ⟨xn, hxn⟩ : ∃ xn, x.toNat = xn := ⟨_, rfl⟩
  obtain ⟨dn, hdn⟩ : ∃ dn, d.toNat = dn := ⟨_, rfl⟩
  obtain ⟨yn, hyn⟩ : ∃ yn, y.toNat = yn := ⟨_, rfl⟩
  have ex : bits .xor .u8 (xn : Int) (dn : Int) = (yn : Int) := by rw [← hxn, ← hdn, ← hyn, u8_xor_nat _ _ x.toNat_lt d.toNat_lt, ← hy, UInt8.toNat_xor]
  have hxn8 : xn < 256 := by rw [← hxn]; exact x.toNat_lt
  have hyn8 : yn < 256 := by rw [← hyn]; exact y.toNat_lt
  have HYN := Lib.hid hyn
  rw [hxn] at hcell
  have e3 : 1 + (dd : Int) = (dn : Int) := by omega
  have hdn8 : dn ≤ 255 := by omega
  have t1 : (u : Int) % 8 = (j : Int) := by omega
  have t2 : (u : Int) / 8 % 255 = (dd : Int) := by omega
  obtain ⟨x8, hx8⟩ : ∃ x8, xl - 8 = x8 := ⟨_, rfl⟩
  obtain ⟨x4, hx4⟩ : ∃ x4, xl - 4 = x4 := ⟨_, rfl⟩
  have e8 : (xl : Int) - 8 = (x8 : Int) := by omega
  have e4 : (xl : Int) - 4 = (x4 : Int) := by omega
  have ek : (x8 : Int) + (j : Int) = (kk : Int) := by omega
  have hkx : kk < xl := by omega
  have hxl2 := hxb.2
  have hx8b : x8 ≤ 320000 := by omega
  have HKX := Lib.hid (And.intro hkk (And.intro hx4 (And.intro hxb.1 hj8)))
  obtain ⟨hu, hu64⟩ := HU.out
  clear hy hxn hdn hyn hd hdd hj hkk hx8 hx4 hxb hd255 HU
  go_wp2_with fail
  have hst := World.ownsRow.stored HOW.out kk (U8 y)
  have HO4 : RowKit.Hid (Own (w3.setCell ⟨g, kk, none⟩ (.int .u8 (yn : Int))) w1.heap.size (.slice (some ⟨g, 0, none⟩) xl k3) (memB l z0 S Z) ∧ Below w1.heap.size w1 (w3.setCell ⟨g, kk, none⟩ (.int .u8 (yn : Int)))) := Lib.hid (by
    obtain ⟨h1, h2⟩ := hst
    rw [show U8 y = .int .u8 (yn : Int) by rw [← HYN.out]] at h1 h2
    refine ⟨?_, Own.grown HO3.out h2 HB3.out HB3.out.size⟩
    have hs := HSE.out.1
    rw [HGD.out, HYY.out] at hs
    rw [← hs]
    unfold Own
    rw [List.length_set, HXL.out, show us (X.set kk y) = (us X).set kk (.int .u8 (yn : Int)) by rw [← HYN.out]; simp [us]]
    exact h1)
  clear hst hcell hfz HO3 HOW
  generalize w3.setCell ⟨g, kk, none⟩ (.int .u8 (yn : Int)) = w4 at HO4 ⊢
  have HB4 := Lib.hid (HB1.out.trans (HO4.out.2.mono HB1.out.size))
  have HUB := Lib.hid (fun (k : Nat) hk => unpack_bad (some ⟨g, 0, none⟩) xl k3 l z0 S Z k n w4 HO4.out.1.rd.2 (noCap' HO4.out.1) (own_le HO4.out.1) (own_form HO4.out.1) (by have := HL.out; omega) (by omega) (by have := HL.out; omega) HSE.out.2.1 HSE.out.2.2 hk
    (HT.out.1.block (HB4.out.block 2 HT.out.2.2)) (HT.out.2.1.below HB4.out (by have := HT.out.2.2; omega)) (by have := HB4.out.size; have := HT.out.2.2; omega))
  rcases HCA.out with ⟨hj4, hS⟩ | ⟨hj4, hS, hZ⟩
  · have HUN := Lib.hid (HUB.out 6 (.inl ⟨rfl, hS⟩))
    have dk : decide (kk < x4) = true := decide_eq_true (by have := HKX.out; omega)
    have dki : decide ((kk : Int) < (x4 : Int)) = true := decide_eq_true (by have := HKX.out; omega)
    clear HUB hS hj4
    refine HUN.out.mono ?_
    rintro e w5 ⟨hb5, ⟨k, hk, rfl⟩ | ⟨_, _, _, hk, _⟩⟩
    rotate_left
    · cases hk
    injection hk with hk
    subst hk
    have HB5 := Lib.hid (HB4.out.trans (hb5.mono HB4.out.size))
    have HI := Lib.hid (is_yes 6 w5 (.inr (.inl rfl)))
    clear hb5 HUN
    go_wp2_with fail
    refine HI.out.mono ?_
    rintro e wz ⟨rfl, rfl⟩
    go_wp2_with fail
    go_ret
    exact ⟨rfl, HB5.out⟩
  · have HUN := Lib.hid (HUB.out 12 (.inr ⟨rfl, hS, hZ⟩))
    have dk : decide (kk < x4) = false := decide_eq_false (by have := HKX.out; omega)
    have dki : decide ((kk : Int) < (x4 : Int)) = false := decide_eq_false (by have := HKX.out; omega)
    clear HUB hS hZ hj4
    refine HUN.out.mono ?_
    rintro e w5 ⟨hb5, ⟨k, hk, rfl⟩ | ⟨_, _, _, hk, _⟩⟩
    rotate_left
    · cases hk
    injection hk with hk
    subst hk
    have HB5 := Lib.hid (HB4.out.trans (hb5.mono HB4.out.size))
    have HI := Lib.hid (is_yes 12 w5 (.inr (.inr rfl)))
    clear hb5 HUN
    go_wp2_with fail
    refine HI.out.mono ?_
    rintro e wz ⟨rfl, rfl⟩
    go_wp2_with fail
    go_ret
    exact ⟨rfl, HB5.out⟩
end Go.Proofs.YtpnnlhegncbfaaaGreatDoor
