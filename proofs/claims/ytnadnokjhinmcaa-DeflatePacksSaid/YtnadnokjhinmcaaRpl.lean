/- The reference's Plain. -/
import Derived.Test.YtnadnokjhinmcaaPlb
namespace Go.Proofs.Ytnadnokjhinmcaa
open Go.RowKit

set_option maxHeartbeats 4000000 in
set_option maxRecDepth 10000 in
theorem rplain_any (A : Option Addr) (n c : Nat) (l : List UInt8) (w : World) (hr : Rd w w.heap.size A n (us l)) (hA : A = none → c = 0) (hn : n ≤ 30000) (hnc : n ≤ c) :
    Calls Try.prog 25 #[.slice A n c] w fun e w' => ∃ v, e = .returned v ∧ Own w' w.heap.size v (plainT l) ∧ Below w.heap.size w w' := by
  have hl : l.length = n := by have := hr.1; rwa [us_length] at this
  have HR := Lib.hid hr
  have HA := Lib.hid hA
  obtain ⟨X, HX⟩ : ∃ X, RowKit.Hid (plainT l = X) := ⟨_, Lib.hid rfl⟩
  rw [HX.out]
  obtain ⟨r, hr'⟩ : ∃ r, n % 256 = r := ⟨_, rfl⟩
  obtain ⟨s, hs'⟩ : ∃ s, n / 256 = s := ⟨_, rfl⟩
  have hr256 : r < 256 := by omega
  have hs256 : s < 256 := by omega
  have HP : RowKit.Hid ([1, UInt8.ofNat r, UInt8.ofNat s, UInt8.ofNat (255 - r), UInt8.ofNat (255 - s)] ++ l = X) := Lib.hid (by rw [← HX.out, plainT, hl, hr', hs'])
  have HU : RowKit.Hid (us [1, UInt8.ofNat r, UInt8.ofNat s, UInt8.ofNat (255 - r), UInt8.ofNat (255 - s)] = [.int .u8 1, .int .u8 (r : Int), .int .u8 (s : Int), .int .u8 (255 - (r : Int)), .int .u8 (255 - (s : Int))]) := Lib.hid (by
    simp only [us, List.map_cons, List.map_nil, U8, UInt8.toNat_ofNat']
    have e1 : ((r % 2 ^ 8 : Nat) : Int) = (r : Int) := by omega
    have e2 : ((s % 2 ^ 8 : Nat) : Int) = (s : Int) := by omega
    have e3 : (((255 - r) % 2 ^ 8 : Nat) : Int) = 255 - (r : Int) := by omega
    have e4 : (((255 - s) % 2 ^ 8 : Nat) : Int) = 255 - (s : Int) := by omega
    rw [e1, e2, e3, e4]
    rfl)
  have d1 : decide (65535 < (n : Int)) = false := decide_eq_false (by omega)
  have m1 : (n : Int).tmod 256 = (r : Int) := by rw [Int.tmod_eq_emod_of_nonneg (by omega)]; omega
  have m2 : (n : Int).tdiv 256 = (s : Int) := by rw [Int.tdiv_eq_ediv_of_nonneg (by omega)]; omega
  have m3 : (n : Int) % 256 = (r : Int) := by omega
  have m4 : (n : Int) / 256 = (s : Int) := by omega
  have m5 : (r : Int) % 256 = (r : Int) := by omega
  have m6 : (s : Int) % 256 = (s : Int) := by omega
  have m7 : (255 - (r : Int)) % 256 = 255 - (r : Int) := by omega
  have m8 : (255 - (s : Int)) % 256 = 255 - (s : Int) := by omega
  have hB1 : Below w.heap.size w (w.alloc (.cells #[] 5)) := below_make (World.grownBy_alloc w _ none)
  have HB1 := Lib.hid hB1
  have HO1 := Lib.hid (own_mono (Own.lit w #[] [] 0 rfl rfl (by omega)) (Nat.le_refl _))
  have HL := Lib.hid (And.intro hl hn)
  clear hr hA hl hB1 hr' hs'
  go_enter Try.func25, Try.ntmps25
  go_wp2_with fail
  generalize w.alloc (.cells #[] 5) = w1 at HO1 HB1 ⊢
  generalize hgw : w.heap.size = gw at HO1 ⊢
  have HGW := Lib.hid hgw
  clear hgw
  go_loopw [0, 3] (fun tx out wr => tx = .slice A n c ∧ out = .slice (some ⟨gw, 0, none⟩) 0 0 ∧ wr = w1) (fun _ _ _ => 0)
  case atStart => exact ⟨rfl, rfl, rfl⟩
  case round =>
    obtain ⟨rfl, rfl, rfl⟩ := hrel
    have HBW : RowKit.Hid (gw ≤ wr.heap.size) := Lib.hid (by rw [← HGW.out]; exact HB1.out.size)
    go_wp2_with (at_builtin; refine push8 wr rfl (.tmp 11) (.tmp 27) rfl gw (.slice (some ⟨gw, 0, none⟩) 0 0) [] [1, UInt8.ofNat r, UInt8.ofNat s, UInt8.ofNat (255 - r), UInt8.ofNat (255 - s)] _ 5 rfl rfl HO1.out HU.out.symm rfl HBW.out (by decide) ?_)
    intro v2 w2 ho2 hg2 hf2
    have HO2 := Lib.hid ho2
    have HB2 : RowKit.Hid (Below w.heap.size w w2) := Lib.hid (HB1.out.grown hg2 HB1.out.size (fun k hk => by have := (World.ownsRow.lt HO1.out k hk).1; have := HGW.out; omega))
    have HBW2 : RowKit.Hid (gw ≤ w2.heap.size) := Lib.hid (by rw [← HGW.out]; exact HB2.out.size)
    have HR2 : RowKit.Hid (Rd w2 w.heap.size A n (us l)) := Lib.hid (HR.out.below HB2.out)
    obtain ⟨A2, c2, hv2⟩ := ho2.slice
    have hv2 : v2 = .slice A2 5 c2 := hv2
    subst hv2
    have HO2 : RowKit.Hid (Own w2 gw (.slice A2 5 c2) ([] ++ [1, UInt8.ofNat r, UInt8.ofNat s, UInt8.ofNat (255 - r), UInt8.ofNat (255 - s)])) := HO2
    clear ho2 hg2 hf2
    go_wp2_with (at_builtin; refine cat8 w2 rfl (.tmp 29) (.tmp 32) rfl gw w.heap.size (.slice A2 5 c2) _ l A n _ rfl rfl HO2.out HR2.out HA.out HBW2.out (by have := HL.out; simp; omega) ?_)
    intro v3 w3 ho3 hg3 hf3
    have HO3 : RowKit.Hid (Own w3 w.heap.size v3 X) := Lib.hid (by rw [HGW.out, ← HP.out]; exact ho3)
    have HB3 : RowKit.Hid (Below w.heap.size w w3) := Lib.hid (HB2.out.grown hg3 HB2.out.size (fun k hk => by have := (World.ownsRow.lt HO2.out k hk).1; have := HGW.out; omega))
    obtain ⟨A3, c3, hv3⟩ := ho3.slice
    generalize List.length _ = p3 at hv3
    subst hv3
    clear ho3 hg3 hf3
    by_cases hcn : c = n
    · subst hcn
      go_wp2_with fail
      go_ret
      exact ⟨_, rfl, HO3.out, HB3.out⟩
    · have hcn2 : n < c := by omega
      go_wp2_with fail
      go_ret
      exact ⟨_, rfl, HO3.out, HB3.out⟩
end Go.Proofs.Ytnadnokjhinmcaa
