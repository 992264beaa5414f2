
/- The reference's Plain. -/

/- The reference's Deflate, given the contract of its Fixed; deflate's Bound. -/
/- The law DeflateBack. -/
import Derived.Test.YtpnnlhegncbfaaaDoorGroupN
import Derived.Test.YtpnnlhegncbfaaaDoorGroupP
import Derived.Lib.MinMax
import Derived.Test.YtpnnlhegncbfaaaDoorGroupQ
import Derived.Test.YtpnnlhegncbfaaaDoorGroupX
namespace Go.Proofs.YtpnnlhegncbfaaaDoor
set_option maxRecDepth 20000
open Go.RowKit

set_option maxHeartbeats 4000000 in
set_option maxRecDepth 10000 in
theorem rplain_any (A : Option Addr) (n c : Nat) (l : List UInt8) (w : World) (hr : Rd w w.heap.size A n (us l)) (hA : A = none → c = 0) (hn : n ≤ 30000) (hnc : n ≤ c) :
    Calls Tryd.prog 42 #[.slice A n c] w fun e w' => ∃ v, e = .returned v ∧ Own w' w.heap.size v (plainT l) ∧ Below w.heap.size w w' := by
  have hl : l.length = n := by have := hr.1; rwa [us_length] at this
  have HR := Lib.hid hr
  have HA := Lib.hid hA
  obtain ⟨X, HX⟩ : ∃ X, RowKit.Hid (plainT l = X) := ⟨_, Lib.hid rfl⟩
  rw [HX.out]
  obtain ⟨r, hr'⟩ : ∃ r, n % 256 = r := ⟨_, rfl⟩
  obtain ⟨s, hs'⟩ : ∃ s, n / 256 = s := ⟨_, rfl⟩
  have hr256 : r < 256 := by omega
  have hs256 : s < 256 := by omega
  have HP : RowKit.Hid ([1, UInt8.ofNat r, UInt8.ofNat s, UInt8.ofNat (255 - r), UInt8.ofNat (255 - s)] ++ l = X) := Lib.hid (by rw [← HX.out, plainT, hl, hr', hs'])
  have HU : RowKit.Hid (us [1, UInt8.ofNat r, UInt8.ofNat s, UInt8.ofNat (255 - r), UInt8.ofNat (255 - s)] = [.int .u8 1, .int .u8 (r : Int), .int .u8 (s : Int), .int .u8 (255 - (r : Int)), .int .u8 (255 - (s : Int))]) := Lib.hid (by
    simp only [us, List.map_cons, List.map_nil, U8, UInt8.toNat_ofNat']
    have e1 : ((r % 2 ^ 8 : Nat) : Int) = (r : Int) := by omega
    have e2 : ((s % 2 ^ 8 : Nat) : Int) = (s : Int) := by omega
    have e3 : (((255 - r) % 2 ^ 8 : Nat) : Int) = 255 - (r : Int) := by omega
    have e4 : (((255 - s) % 2 ^ 8 : Nat) : Int) = 255 - (s : Int) := by omega
    rw [e1, e2, e3, e4]
    rfl)
  have d1 : decide (65535 < (n : Int)) = false := decide_eq_false (by omega)
  have m1 : (n : Int).tmod 256 = (r : Int) := by rw [Int.tmod_eq_emod_of_nonneg (by omega)]; omega
  have m2 : (n : Int).tdiv 256 = (s : Int) := by rw [Int.tdiv_eq_ediv_of_nonneg (by omega)]; omega
  have m3 : (n : Int) % 256 = (r : Int) := by omega
  have m4 : (n : Int) / 256 = (s : Int) := by omega
  have m5 : (r : Int) % 256 = (r : Int) := by omega
  have m6 : (s : Int) % 256 = (s : Int) := by omega
  have m7 : (255 - (r : Int)) % 256 = 255 - (r : Int) := by omega
  have m8 : (255 - (s : Int)) % 256 = 255 - (s : Int) := by omega
  have hB1 : Below w.heap.size w (w.alloc (.cells #[] 5)) := below_make (World.grownBy_alloc w _ none)
  have HB1 := Lib.hid hB1
  have HO1 := Lib.hid (own_mono (Own.lit w #[] [] 0 rfl rfl (by omega)) (Nat.le_refl _))
  have HL := Lib.hid (And.intro hl hn)
  clear hr hA hl hB1 hr' hs'
  go_enter Tryd.func42, Tryd.ntmps42
  go_wp2_with fail
  generalize w.alloc (.cells #[] 5) = w1 at HO1 HB1 ⊢
  generalize hgw : w.heap.size = gw at HO1 ⊢
  have HGW := Lib.hid hgw
  clear hgw
  go_loopw [0, 3] (fun tx out wr => tx = .slice A n c ∧ out = .slice (some ⟨gw, 0, none⟩) 0 0 ∧ wr = w1) (fun _ _ _ => 0)
  case atStart => exact ⟨rfl, rfl, rfl⟩
  case round =>
    obtain ⟨rfl, rfl, rfl⟩ := hrel
    have HBW : RowKit.Hid (gw ≤ wr.heap.size) := Lib.hid (by rw [← HGW.out]; exact HB1.out.size)
    go_wp2_with (at_builtin; refine push8 wr rfl (.tmp 11) (.tmp 27) rfl gw (.slice (some ⟨gw, 0, none⟩) 0 0) [] [1, UInt8.ofNat r, UInt8.ofNat s, UInt8.ofNat (255 - r), UInt8.ofNat (255 - s)] _ 5 rfl rfl HO1.out HU.out.symm rfl HBW.out (by decide) ?_)
    intro v2 w2 ho2 hg2 hf2
    have HO2 := Lib.hid ho2
    have HB2 : RowKit.Hid (Below w.heap.size w w2) := Lib.hid (HB1.out.grown hg2 HB1.out.size (fun k hk => by have := (World.ownsRow.lt HO1.out k hk).1; have := HGW.out; omega))
    have HBW2 : RowKit.Hid (gw ≤ w2.heap.size) := Lib.hid (by rw [← HGW.out]; exact HB2.out.size)
    have HR2 : RowKit.Hid (Rd w2 w.heap.size A n (us l)) := Lib.hid (HR.out.below HB2.out)
    obtain ⟨A2, c2, hv2⟩ := ho2.slice
    have hv2 : v2 = .slice A2 5 c2 := hv2
    subst hv2
    have HO2 : RowKit.Hid (Own w2 gw (.slice A2 5 c2) ([] ++ [1, UInt8.ofNat r, UInt8.ofNat s, UInt8.ofNat (255 - r), UInt8.ofNat (255 - s)])) := HO2
    clear ho2 hg2 hf2
    go_wp2_with (at_builtin; refine cat8 w2 rfl (.tmp 29) (.tmp 32) rfl gw w.heap.size (.slice A2 5 c2) _ l A n _ rfl rfl HO2.out HR2.out HA.out HBW2.out (by have := HL.out; simp; omega) ?_)
    intro v3 w3 ho3 hg3 hf3
    have HO3 : RowKit.Hid (Own w3 w.heap.size v3 X) := Lib.hid (by rw [HGW.out, ← HP.out]; exact ho3)
    have HB3 : RowKit.Hid (Below w.heap.size w w3) := Lib.hid (HB2.out.grown hg3 HB2.out.size (fun k hk => by have := (World.ownsRow.lt HO2.out k hk).1; have := HGW.out; omega))
    obtain ⟨A3, c3, hv3⟩ := ho3.slice
    generalize List.length _ = p3 at hv3
    subst hv3
    clear ho3 hg3 hf3
    by_cases hcn : c = n
    · subst hcn
      go_wp2_with fail
      go_ret
      exact ⟨_, rfl, HO3.out, HB3.out⟩
    · have hcn2 : n < c := by omega
      go_wp2_with fail
      go_ret
      exact ⟨_, rfl, HO3.out, HB3.out⟩
end Go.Proofs.YtpnnlhegncbfaaaDoor
namespace Go.Proofs.YtpnnlhegncbfaaaDoor
set_option maxRecDepth 20000
open Go.RowKit

/-- The contract of the reference's Fixed. -/
def FixC : Prop := ∀ (A : Option Addr) (n c : Nat) (l : List UInt8) (w : World), Rd w w.heap.size A n (us l) → n ≤ 1000 →
    Calls Tryd.prog 43 #[.slice A n c] w fun e w' => ∃ v, e = .returned v ∧ Own w' w.heap.size v (tokT l) ∧ Below w.heap.size w w'

set_option maxHeartbeats 1000000 in
theorem rdeflate_range (A : Option Addr) (n c : Nat) (z : Int) (w : World) (hz : z < 0 ∨ 2 < z) :
    Calls Tryd.prog 30 #[.slice A n c, .int .i64 z] w fun e w' => e = .returned (.tuple #[.slice none 0 0, .int .i64 1]) ∧ w' = w := by
  by_cases h0 : z < 0
  · have d0 : decide (z < 0) = true := decide_eq_true h0
    clear hz h0
    go_enter Tryd.func30, Tryd.ntmps30
    go_wp2_with fail
    go_ret2
    exact ⟨rfl, rfl⟩
  · have d0 : decide (z < 0) = false := decide_eq_false h0
    have d1 : decide (2 < z) = true := decide_eq_true (by omega)
    clear hz h0
    go_enter Tryd.func30, Tryd.ntmps30
    go_wp2_with fail
    go_ret2
    exact ⟨rfl, rfl⟩

set_option maxHeartbeats 4000000 in
set_option maxRecDepth 10000 in
theorem rdeflate_any (hfix : FixC) (A : Option Addr) (n c : Nat) (l : List UInt8) (z : Int) (w : World) (hr : Rd w w.heap.size A n (us l)) (hA : A = none → c = 0) (hn : n ≤ 1000) (hnc : n ≤ c) (hz : 0 ≤ z ∧ z ≤ 2) :
    Calls Tryd.prog 30 #[.slice A n c, .int .i64 z] w fun e w' => ∃ v, e = .returned (.tuple #[v, .int .i64 0]) ∧ Own w' w.heap.size v (packT l z) ∧ Below w.heap.size w w' := by
  have HP : ∀ w', Below w.heap.size w w' → RowKit.Hid (Calls Tryd.prog 42 #[.slice A n c] w' fun e w'' => ∃ v, e = .returned v ∧ Own w'' w'.heap.size v (plainT l) ∧ Below w'.heap.size w' w'') := fun w' hb => Lib.hid (rplain_any A n c l w' (hr.next hb) hA (by omega) hnc)
  have HT : RowKit.Hid (Calls Tryd.prog 43 #[.slice A n c] w fun e w'' => ∃ v, e = .returned v ∧ Own w'' w.heap.size v (tokT l) ∧ Below w.heap.size w w'') := Lib.hid (hfix A n c l w hr hn)
  have d2 : decide (1048576 < (n : Int)) = false := decide_eq_false (by omega)
  clear hr hA hn hnc hfix
  by_cases h0 : z = 0
  · subst h0
    rw [show packT l 0 = plainT l from if_pos rfl]
    clear HT
    go_enter Tryd.func30, Tryd.ntmps30
    go_wp2_with fail
    refine (HP w (Below.refl _ _)).out.mono ?_
    rintro e w1 ⟨v, rfl, ho, hb⟩
    have HF := Lib.hid (And.intro ho hb)
    clear ho hb HP
    go_wp2_with fail
    go_ret2
    exact ⟨_, rfl, HF.out⟩
  · have hz12 : z = 1 ∨ z = 2 := by omega
    obtain ⟨X, HX⟩ : ∃ X, RowKit.Hid (packT l z = X) := ⟨_, Lib.hid rfl⟩
    rw [HX.out]
    have HX1 : RowKit.Hid (z = 1 → tokT l = X) := Lib.hid (fun h => by rw [← HX.out, h]; rfl)
    have HX2 : RowKit.Hid (z = 2 → (if (plainT l).length < (tokT l).length then plainT l else tokT l) = X) := Lib.hid (fun h => by rw [← HX.out, h]; rfl)
    clear HX h0 hz
    generalize plainT l = P at HP HX2
    generalize tokT l = T at HT HX1 HX2
    rcases hz12 with rfl | rfl
    · clear HX2
      have HX3 := Lib.hid (HX1.out rfl)
      clear HX1
      go_enter Tryd.func30, Tryd.ntmps30
      go_wp2_with fail
      refine HT.out.mono ?_
      rintro e w1 ⟨v, rfl, ho, hb⟩
      have HO1 := Lib.hid ho
      have HB1 := Lib.hid hb
      clear ho hb HT
      go_wp2_with fail
      refine (HP w1 HB1.out).out.mono ?_
      rintro e w2 ⟨u, rfl, ho, hb⟩
      have HF : RowKit.Hid (Own w2 w.heap.size v X ∧ Below w.heap.size w w2) := Lib.hid (by
        rw [← HX3.out]
        exact ⟨HO1.out.blocks (fun k hk => hb.block k (World.ownsRow.lt HO1.out k hk).2), HB1.out.trans (hb.mono HB1.out.size)⟩)
      clear ho hb HP HO1 HB1
      go_wp2_with fail
      go_ret2
      exact ⟨_, rfl, HF.out⟩
    · clear HX1
      have HX3 := Lib.hid (HX2.out rfl)
      clear HX2
      go_enter Tryd.func30, Tryd.ntmps30
      go_wp2_with fail
      refine HT.out.mono ?_
      rintro e w1 ⟨v, rfl, ho, hb⟩
      have HO1 := Lib.hid ho
      have HB1 := Lib.hid hb
      clear ho hb HT
      go_wp2_with fail
      refine (HP w1 HB1.out).out.mono ?_
      rintro e w2 ⟨u, rfl, ho, hb⟩
      have HO2 : RowKit.Hid (Own w2 w.heap.size v T) := Lib.hid (HO1.out.blocks (fun k hk => hb.block k (World.ownsRow.lt HO1.out k hk).2))
      have HP2 : RowKit.Hid (Own w2 w.heap.size u P) := Lib.hid (own_mono ho HB1.out.size)
      have HB2 : RowKit.Hid (Below w.heap.size w w2) := Lib.hid (HB1.out.trans (hb.mono HB1.out.size))
      clear ho hb HP HO1 HB1
      obtain ⟨Av, cv, rfl⟩ := HP2.out.slice
      obtain ⟨Au, cu, rfl⟩ := HO2.out.slice
      generalize hp : P.length = p at HP2 HX3 ⊢
      generalize ht : T.length = t at HO2 HX3 ⊢
      clear hp ht
      by_cases hlt : p < t
      · have d1 : decide ((p : Int) < (t : Int)) = true := decide_eq_true (by omega)
        have HX4 : RowKit.Hid (P = X) := Lib.hid (by rw [← HX3.out, if_pos hlt])
        clear HX3
        go_wp2_with fail
        go_ret2
        exact ⟨_, rfl, HX4.out ▸ HP2.out, HB2.out⟩
      · have d1 : decide ((p : Int) < (t : Int)) = false := decide_eq_false (by omega)
        have HX4 : RowKit.Hid (T = X) := Lib.hid (by rw [← HX3.out, if_neg hlt])
        clear HX3
        go_wp2_with fail
        go_ret2
        exact ⟨_, rfl, HX4.out ▸ HO2.out, HB2.out⟩

set_option maxHeartbeats 1000000 in
theorem bound_nat (n q : Nat) (h : n ≤ 1000) (hq : n / 10 = q) (w : World) : Calls Tryd.prog 11 #[.int .i64 (n : Int)] w fun e w' => e = .returned (.int .i64 ((n : Int) + (q : Int) + 16)) ∧ w' = w := by
  have e0 : max (0 : Int) (n : Int) = (n : Int) := by omega
  have e1 : (n : Int).tdiv 10 = (q : Int) := by rw [Int.tdiv_eq_ediv_of_nonneg (by omega)]; omega
  have e2 : (n : Int) / 10 = (q : Int) := by omega
  have E5 : RowKit.Hid (wrap64 (q : Int) = (q : Int)) := Lib.hid (by unfold wrap64; omega)
  have E3 : RowKit.Hid (wrap64 ((n : Int) + (q : Int)) = (n : Int) + (q : Int)) := Lib.hid (by unfold wrap64; omega)
  have E4 : RowKit.Hid (wrap64 ((n : Int) + (q : Int) + 16) = (n : Int) + (q : Int) + 16) := Lib.hid (by unfold wrap64; omega)
  clear hq h
  go_enter Tryd.func11, Tryd.ntmps11
  go_wp2_with fail
  go_ret
  refine ⟨?_, rfl⟩
  show Ending.returned (.int .i64 (wrap64 (wrap64 ((n : Int) + wrap64 (q : Int)) + 16))) = _
  rw [E5.out, E3.out, E4.out]
set_option maxHeartbeats 1000000 in
theorem bound_neg (x : Int) (h1 : -2000 ≤ x) (h2 : x < 0) (w : World) : Calls Tryd.prog 11 #[.int .i64 x] w fun e w' => e = .returned (.int .i64 16) ∧ w' = w := by
  have e0 : max (0 : Int) x = 0 := by omega
  clear h1 h2
  go_enter Tryd.func11, Tryd.ntmps11
  go_wp2_with fail
  go_ret
  exact ⟨rfl, rfl⟩
end Go.Proofs.YtpnnlhegncbfaaaDoor
namespace Go.Proofs.YtpnnlhegncbfaaaDoor
set_option maxRecDepth 20000
open Go.RowKit

set_option maxHeartbeats 400000 in
theorem bound_nat2 (n q : Nat) (h : n ≤ 100000) (hq : n / 10 = q) (w : World) : Calls Tryd.prog 11 #[.int .i64 (n : Int)] w fun e w' => e = .returned (.int .i64 ((n + q + 16 : Nat) : Int)) ∧ w' = w := by
  have e1 : (n : Int).tdiv 10 = (q : Int) := by rw [Int.tdiv_eq_ediv_of_nonneg (by omega)]; omega
  have e2 : (n : Int) / 10 = (q : Int) := by omega
  have hm : max (n : Int) 0 = (n : Int) := by omega
  have hm2 : max 0 (n : Int) = (n : Int) := by omega
  obtain ⟨s, hs⟩ : ∃ s, n + q = s := ⟨_, rfl⟩
  obtain ⟨t, ht⟩ : ∃ t, s + 16 = t := ⟨_, rfl⟩
  have e3 : (n : Int) + (q : Int) = (s : Int) := by omega
  have e4 : (s : Int) + 16 = (t : Int) := by omega
  have HT : RowKit.Hid (n + q + 16 = t ∧ s ≤ 200000 ∧ t ≤ 300000 ∧ q ≤ 100000) := Lib.hid (by omega)
  have b1 : s ≤ 200000 := HT.out.2.1
  have b2 : t ≤ 300000 := HT.out.2.2.1
  have b3 : q ≤ 100000 := HT.out.2.2.2
  clear hq hs ht
  go_enter Tryd.func11, Tryd.ntmps11
  go_wp2_with fail
  go_ret
  exact ⟨by rw [HT.out.1]; rfl, rfl⟩
theorem infl_back {l : List UInt8} (hl : l.length ≤ 65535) (z : Int) : ∃ s, inflF (8 * (packT l z).length + 1) (bitsL (packT l z)) l.length = .ok ((), s) ∧ s.out = l ∧ (s.pos + 7) / 8 = (packT l z).length := by
  have h := (infl_pack hl z [] l.length).2 (Nat.le_refl _)
  rwa [List.append_nil] at h
theorem pack_len {l : List UInt8} (hl : l.length ≤ 30000) (z : Int) : (packT l z).length ≤ 310000 := by
  have h1 := plainT_length l
  have h2 : (tokT l).length ≤ 310000 := by
    have g1 := flat_length (toksT l)
    have g2 : (tokT l).length = ((fixedM l).length + 7) / 8 := textB_length _
    have g3 := toks_len l l.length 0
    have g4 : (fixedM l).length = 3 + ((toksT l).flatMap tokB).length + 7 := by
      unfold fixedM
      simp only [List.length_append, bitsO_length, lenI_nat, len256, List.length_cons, List.length_nil]
    unfold toksT at g1 g4
    omega
  unfold packT
  split
  · omega
  · split
    · omega
    · split <;> omega
theorem untok_grow : ∀ (b : List Tk) (o t : List UInt8), untokF b o = .ok t → o.length ≤ t.length
  | [], o, t, h => by injection h with h; subst h; exact Nat.le_refl _
  | x :: b, o, t, h => by
    unfold untokF at h
    split at h
    · have h1 := untok_grow b (putT x o) t h
      have h2 : o.length ≤ (putT x o).length := by
        unfold putT
        split
        · simp
        · rw [copyN_length]; omega
      omega
    · cases h
theorem untok_part {D : List UInt8} (hl : D.length ≤ 30000) (k : Nat) (o : List UInt8) (h : untokF ((toksT D).take k) [] = .ok o) : o.length ≤ 900000 := by
  have h1 := untok_toks (t := D) (by omega)
  rw [← List.take_append_drop k (toksT D), untokF_append _ _ _ _ h] at h1
  have := untok_grow _ _ _ h1
  omega
/-- What was packed is unpacked. -/
theorem unpack_any (A : Option Addr) (n c : Nat) (D : List UInt8) (z : Int) (w : World) (hl : D.length ≤ 30000) (hr : Rd w w.heap.size A n (us (packT D z))) (hA : A = none → c = 0) (ht : Tab w) (h1 : 1 < w.heap.size) :
    Calls Tryd.prog 10 #[.slice A n c, .int .i64 (D.length : Int)] w fun e w' => Below w.heap.size w w' ∧ ∃ u st, e = .returned (.tuple #[.agg #[u, .int .i64 (n : Int), .int .i64 st], .nilIface]) ∧ Own w' w.heap.size u D := by
  have hn : (packT D z).length = n := by have := hr.1; rwa [us_length] at this
  have hp := pack_len hl z
  refine (inflate_all A n c (packT D z) D.length w hr hA (by omega) ht h1).mono ?_
  obtain ⟨s, i1, i2, i3⟩ := infl_back (l := D) (by omega) z
  rintro e w' ⟨hb, ⟨k, hk, rfl⟩ | ⟨s', u, _, hs, rfl, hu⟩⟩
  · exfalso
    rcases hk with ⟨h, _⟩ | ⟨_, j, _, h⟩
    · omega
    · rw [Int.toNat_natCast, i1] at h; cases h
  · rw [Int.toNat_natCast, i1] at hs
    injection hs with hs
    injection hs with _ hs
    subst hs
    refine ⟨hb, u, _, by rw [i3, hn], by rw [← i2]; exact hu⟩
/-- What the loop over the modes keeps. -/
structure SZ (w wr : World) (H : Nat) (D : List UInt8) (k : Nat) : Prop where
  row : ∃ f, Row wr H (ia f 3) 32 ∧ ∀ j, j < k → f j = (packT D (j : Int)).length
  below : Below w.heap.size w wr
  size : w.heap.size ≤ H ∧ H < wr.heap.size
/-- What the loop that joins the text keeps. -/
structure JO (w wr : World) (v : Value) (D : List UInt8) : Prop where
  own : Own wr w.heap.size v D
  below : Below w.heap.size w wr
  le : D.length ≤ 30000
theorem min_eq3 (a b c : Nat) (h : c = min a b) : ((c : Int) == min (a : Int) (b : Int)) = true := by
  rw [beq_iff_eq]; omega
theorem untoks_any (A : Option Addr) (c : Nat) (D : List UInt8) (w : World) (hl : D.length ≤ 30000) (hr : RdT w w.heap.size A (toksT D).length (toksT D)) :
    Calls Tryd.prog 6 #[.slice A (toksT D).length c] w fun e w' => ∃ v, e = .returned (.tuple #[v, .nilIface]) ∧ Below w.heap.size w w' ∧ Own w' w.heap.size v D := by
  have h1 := untok_toks (t := D) (by omega)
  refine (untokens_any A _ c (toksT D) w hr (by have := toks_len D D.length 0; unfold toksT; omega) (fun k o h => untok_part hl k o h)).mono ?_
  rintro e w' ⟨v, k, rfl, hb, ⟨rfl, o, ho, hw⟩ | ⟨_, ho, _⟩⟩
  · rw [h1] at ho
    injection ho with ho
    subst ho
    exact ⟨v, rfl, hb, hw⟩
  · rw [h1] at ho; cases ho
theorem JO.next {w wr w' : World} {v : Value} {D : List UInt8} (h : JO w wr v D) (hb : Below wr.heap.size wr w') : JO w w' v D :=
  ⟨World.ownsRow.kept h.own (grown_of_below hb) (own_none v), h.below.trans (hb.mono h.below.size), h.le⟩
theorem JO.slice {w wr : World} {v : Value} {D : List UInt8} (h : JO w wr v D) : ∃ A c, v = .slice A D.length c ∧ (A = none → c = 0) ∧ D.length ≤ c ∧ Rd wr wr.heap.size A D.length (us D) := by
  obtain ⟨A, c, rfl⟩ := h.own.slice
  exact ⟨A, c, rfl, noCap' h.own, own_le h.own, h.own.rd.2⟩
theorem SZ.next {w wr w' : World} {H k : Nat} {D : List UInt8} (h : SZ w wr H D k) (hb : Below wr.heap.size wr w') : SZ w w' H D k := by
  obtain ⟨f, h1, h2⟩ := h.row
  exact ⟨⟨f, h1.below hb h1.lt, h2⟩, h.below.trans (hb.mono h.below.size), h.size.1, Nat.lt_of_lt_of_le h.size.2 hb.size⟩
theorem SZ.set {w wr : World} {H k : Nat} {D : List UInt8} (h : SZ w wr H D k) (z : Int) (hz : z = ((packT D (k : Int)).length : Int)) : SZ w (wr.setCell ⟨H, k, none⟩ (.int .i64 z)) H D (k + 1) := by
  obtain ⟨f, h1, h2⟩ := h.row
  refine ⟨⟨upd f k (packT D (k : Int)).length, h1.iaSet k _ z hz, fun j hj => ?_⟩, h.below.grown (grown_setCell wr H k _) h.below.size (fun q hq => by injection hq with hq; have := h.size.1; omega), h.size.1, by simp [World.setCell]; exact h.size.2⟩
  unfold upd
  by_cases e : j = k
  · subst e; rw [if_pos rfl]
  · rw [if_neg e]; exact h2 j (by omega)
theorem ownAt {w w' : World} {B B' : Nat} {v : Value} {l : List UInt8} (h : Own w B v l) (hb : Below w.heap.size w w') (hB : B' ≤ B) : Own w' B' v l := own_mono (World.ownsRow.kept h (grown_of_below hb) (own_none v)) hB
set_option maxHeartbeats 8000000 in
theorem back_any (A : Option Addr) (n c : Nat) (l : List UInt8) (t : Int) (w : World) (hr : Rd w w.heap.size A n (us l)) (hA : A = none → c = 0) (hnm : n ≤ 9223372036854775807) (ht : Tab w) (h1 : 1 < w.heap.size) :
    Calls Tryd.prog 3 #[.slice A n c, .int .i64 t] w fun e w' => e = .returned (.bool true) ∧ Below w.heap.size w w' := by
  have HR := Lib.hid hr
  have HA := Lib.hid hA
  have HT := Lib.hid (And.intro ht h1)
  have HTB : RowKit.Hid (∀ wx, Below w.heap.size w wx → Tab wx ∧ 1 < wx.heap.size) := Lib.hid (fun wx hb => ⟨ht.block (hb.block 1 h1), Nat.lt_of_lt_of_le h1 hb.size⟩)
  have HLN : RowKit.Hid (l.length = n) := Lib.hid (by have := hr.1; rwa [us_length] at this)
  obtain ⟨m, hm, hm40⟩ : ∃ m : Nat, (IntKind.u64.wrap t).tmod 40 = (m : Int) ∧ m < 40 := by
    have h0 : 0 ≤ IntKind.u64.wrap t := by unfold IntKind.wrap; simp [IntKind.signed, IntKind.bits]; omega
    have h2 := Int.tmod_nonneg 40 h0
    have h3 := Int.tmod_lt_of_pos (IntKind.u64.wrap t) (show (0 : Int) < 40 by decide)
    exact ⟨((IntKind.u64.wrap t).tmod 40).toNat, by omega, by omega⟩
  obtain ⟨N, hN⟩ : ∃ N, m + 1 = N := ⟨_, rfl⟩
  have eN : 1 + (m : Int) = (N : Int) := by omega
  have HNN : RowKit.Hid (1 ≤ N ∧ N ≤ 40) := Lib.hid (by omega)
  clear hr hA ht h1 hN
  go_enter Tryd.func3, Tryd.ntmps3
  go_wp2_with fail
  refine (alive_true w).mono ?_
  rintro e w1 ⟨rfl, hb1⟩
  have HB1 := Lib.hid hb1
  clear hb1
  go_wp2_with fail
  have HJ0 : RowKit.Hid (JO w (w1.alloc (.cells #[] 5)) (.slice (some ⟨w1.heap.size, 0, none⟩) 0 0) []) := Lib.hid
    ⟨own_mono (Own.lit w1 #[] [] 0 rfl rfl (by decide)) HB1.out.size, HB1.out.trans ((below_make (World.grownBy_alloc w1 _ none)).mono HB1.out.size), Nat.zero_le _⟩
  generalize w1.alloc (.cells #[] 5) = w2 at HJ0 ⊢
  generalize w1.heap.size = q1 at HJ0 ⊢
  clear HB1
  by_cases hn : 30000 < n
  · have dn : decide (30000 < (n : Int)) = true := decide_eq_true (by omega)
    go_loopw [5, 22] (fun x i wr => i = .int .i64 0 ∧ x = .slice (some ⟨q1, 0, none⟩) 0 0 ∧ Below w.heap.size w wr) (fun _ _ _ => 0)
    case atStart => exact ⟨rfl, rfl, HJ0.out.below⟩
    case round =>
      obtain ⟨rfl, rfl, hb⟩ := hrel
      have HB := Lib.hid hb
      have d1 : decide ((0 : Int) < (N : Int)) = true := decide_eq_true (by have := HNN.out; omega)
      have ew : IntKind.i64.wrap (n : Int) = (n : Int) := wrap64_in _ (by omega) (by omega)
      have ew2 : (0 : Int) + (n : Int) = (n : Int) := by omega
      clear hb
      go_wp2_with fail
      go_ret
      exact ⟨rfl, HB.out⟩
  have dn : decide (30000 < (n : Int)) = false := decide_eq_false (by omega)
  go_loopw [5, 22] (fun x i wr => ∃ (k : Nat) (D : List UInt8), i = .int .i64 (k : Int) ∧ k ≤ N ∧ JO w wr x D) (fun _ i _ => N - (intOf i).toNat)
  case atStart => exact ⟨0, [], rfl, Nat.zero_le _, HJ0.out⟩
  case round =>
    clear HJ0
    obtain ⟨k, D, rfl, hk, hJ⟩ := hrel
    obtain ⟨A2, c2, rfl, hz2, hn2, hd2⟩ := hJ.slice
    have HJ := Lib.hid hJ
    have HZ2 := Lib.hid (And.intro hz2 (And.intro hn2 hd2))
    have hle := hJ.le
    clear hJ hz2 hn2 hd2
    generalize hDl : D.length = dl at HZ2 hle ⊢
    have HDL := Lib.hid hDl
    clear hDl
    replace HJ : RowKit.Hid (JO w wr (.slice A2 dl c2) D) := Lib.hid (by rw [← HDL.out]; exact HJ.out)
    have hN40 : N ≤ 40 := HNN.out.2
    have hcase : (k < N ∧ dl + n ≤ 30000) ∨ (k < N ∧ 30000 < dl + n) ∨ k = N := by omega
    rcases hcase with ⟨h1, h2⟩ | ⟨h1, h2⟩ | h1
    · have d1 : decide ((k : Int) < (N : Int)) = true := decide_eq_true (by omega)
      have d2 : decide (30000 < (dl : Int) + (n : Int)) = false := decide_eq_false (by omega)
      go_wp2_with (at_builtin; refine cat8 wr rfl (.tmp 30) (.tmp 31) rfl w.heap.size w.heap.size _ D l A n c rfl rfl HJ.out.own (HR.out.below HJ.out.below) HA.out HJ.out.below.size (by have := HDL.out; omega) ?_)
      intro v3 w3 ho3 hg3 hf3
      have HJ3 : RowKit.Hid (JO w w3 v3 (D ++ l)) := Lib.hid ⟨ho3, Own.grown HJ.out.own hg3 HJ.out.below HJ.out.below.size, by rw [List.length_append, HDL.out, HLN.out]; omega⟩
      clear ho3 hg3 hf3
      go_wp2_with fail
      go_roundw
      case rel => exact ⟨k + 1, D ++ l, by simp, by omega, HJ3.out⟩
      case measure => simp [intOf]; omega
    · have d1 : decide ((k : Int) < (N : Int)) = true := decide_eq_true (by omega)
      have d2 : decide (30000 < (dl : Int) + (n : Int)) = true := decide_eq_true (by omega)
      clear h2
      go_wp2_with fail
      refine (tokens_any A2 dl c2 D wr HZ2.out.2.2 (by omega)).mono ?_
      rintro e w3 ⟨v3, rfl, ho3, hb3⟩
      obtain ⟨A3, c3, rfl, hz3, hd3⟩ := ho3.rd
      have HD3 := Lib.hid hd3
      have HJ3 := Lib.hid (HJ.out.next hb3)
      have HR3 := Lib.hid (HZ2.out.2.2.next hb3)
      have HUN := Lib.hid (untoks_any A3 c3 D w3 (by have := HDL.out; omega) hd3)
      clear ho3 hb3 hz3 hd3 HD3
      generalize (toksT D).length = tl at HUN ⊢
      go_wp2_with fail
      refine HUN.out.mono ?_
      rintro e w4 ⟨v4, rfl, hb4, ho4⟩
      obtain ⟨A4, c4, rfl⟩ := ho4.slice
      have HR4 := Lib.hid (HR3.out.next hb4)
      have HO4 : RowKit.Hid (Rd w4 w4.heap.size A4 dl (us D)) := Lib.hid (by have := ho4.rd.2; rwa [HDL.out] at this)
      have HJ4 := Lib.hid (HJ3.out.next hb4)
      rw [HDL.out]
      clear hb4 ho4 HUN HR3 HJ3
      go_wp2_with fail
      refine (bytes_same A4 A2 dl c4 c2 D w4 HO4.out HR4.out).mono ?_
      rintro e wz ⟨rfl, rfl⟩
      go_wp2_with fail
      have HB5 : RowKit.Hid (Below wz.heap.size wz (wz.alloc (.cells #[.int .i64 0, .int .i64 0, .int .i64 0] 32))) := Lib.hid (below_make (World.grownBy_alloc wz _ none))
      have HS5 : RowKit.Hid (SZ w (wz.alloc (.cells #[.int .i64 0, .int .i64 0, .int .i64 0] 32)) wz.heap.size D 0) := Lib.hid
        ⟨⟨fun _ => 0, by rw [show ia (fun _ => 0) 3 = #[.int .i64 0, .int .i64 0, .int .i64 0] from rfl]; exact heap_alloc_new wz _, fun j hj => by omega⟩, HJ4.out.below.trans (HB5.out.mono HJ4.out.below.size), HJ4.out.below.size, by simp⟩
      have HR5 := Lib.hid (HR4.out.below HB5.out)
      clear HB5 HO4 HR4 HJ4
      generalize wz.alloc (.cells #[.int .i64 0, .int .i64 0, .int .i64 0] 32) = w5 at HS5 HR5 ⊢
      generalize wz.heap.size = H at HS5 HR5 ⊢
      have HDM : RowKit.Hid (dl ≤ 30000 ∧ (A2 = none → c2 = 0) ∧ dl ≤ c2) := Lib.hid ⟨hle, HZ2.out.1, HZ2.out.2.1⟩
      go_loopw [51] (fun i wr => ∃ k : Nat, i = .int .i64 (k : Int) ∧ k ≤ 3 ∧ SZ w wr H D k ∧ Rd wr H A2 dl (us D)) (fun i _ => 3 - (intOf i).toNat)
      case atStart => exact ⟨0, rfl, by omega, HS5.out, HR5.out⟩
      case round =>
        clear HS5 HR5
        obtain ⟨j, rfl, hj, hS, hR⟩ := hrel
        have HS := Lib.hid hS
        have HRX := Lib.hid hR
        clear hS hR
        by_cases hlt : j < 3
        · have e1 : decide ((j : Int) < 3) = true := decide_eq_true (by omega)
          have hpl := pack_len (l := D) (by rw [HDL.out]; omega) (j : Int)
          go_wp2_with fail
          refine (deflate_any A2 dl c2 D (j : Int) _ (HRX.out.more (Nat.le_of_lt HS.out.size.2)) HDM.out.2.1 (by omega) HDM.out.2.2 (by omega)).mono ?_
          rintro e w6 ⟨v6, rfl, ho6, hb6⟩
          obtain ⟨A6, c6, rfl⟩ := ho6.slice
          have HS6 := Lib.hid (HS.out.next hb6)
          have HR6 := Lib.hid (HRX.out.below (hb6.mono (Nat.le_of_lt HS.out.size.2)))
          have HO6 := Lib.hid (And.intro (noCap' ho6) ho6.rd.2)
          clear ho6 hb6 HS HRX
          generalize hpq : (packT D (j : Int)).length = pl at hpl HO6 ⊢
          have HPQ := Lib.hid hpq
          clear hpq
          have HI := Lib.hid (unpack_any A6 pl c6 D (j : Int) w6 (by rw [HDL.out]; omega) HO6.out.2 HO6.out.1 (HTB.out w6 HS6.out.below).1 (HTB.out w6 HS6.out.below).2)
          rw [HDL.out] at HI
          go_wp2_with fail
          refine HI.out.mono ?_
          rintro e w7 ⟨hb7, u7, st, rfl, ho7⟩
          obtain ⟨A7, c7, rfl⟩ := ho7.slice
          rw [HDL.out]
          have HS7 := Lib.hid (HS6.out.next hb7)
          have HR7 := Lib.hid (HR6.out.below (hb7.mono (Nat.le_of_lt HS6.out.size.2)))
          have HO7 : RowKit.Hid (Rd w7 w7.heap.size A7 dl (us D)) := Lib.hid (by have := ho7.rd.2; rwa [HDL.out] at this)
          clear ho7 hb7 HS6 HR6 HI HO6
          go_wp2_with fail
          have HB8 : RowKit.Hid (Below w7.heap.size w7 (w7.alloc (.cells #[.slice A7 dl c7, .int .i64 (pl : Int), .int .i64 st] 35))) := Lib.hid (below_make (World.grownBy_alloc w7 _ none))
          have HS8 := Lib.hid (HS7.out.next HB8.out)
          have HR8 := Lib.hid (HR7.out.below (HB8.out.mono (Nat.le_of_lt HS7.out.size.2)))
          have HO8 := Lib.hid (HO7.out.next HB8.out)
          clear HB8 HS7 HR7 HO7
          generalize w7.alloc (.cells #[.slice A7 dl c7, .int .i64 (pl : Int), .int .i64 st] 35) = w8 at HS8 HR8 HO8 ⊢
          refine (bytes_same A7 A2 dl c7 c2 D w8 HO8.out (HR8.out.more (Nat.le_of_lt HS8.out.size.2))).mono ?_
          rintro e wy ⟨rfl, rfl⟩
          obtain ⟨f, hrow, hf⟩ := HS8.out.row
          have z1 := hrow.thawed j
          have z2 := hrow.ia hlt
          have z3 : (j : Int) < 3 := by omega
          go_wp2_with fail
          have HS9 := Lib.hid (HS8.out.set (pl : Int) (by rw [HPQ.out]))
          have HR9 := Lib.hid (HR8.out.below ((Below.refl H wy).grown (grown_setCell wy H j (.int .i64 (pl : Int))) (Nat.le_of_lt HS8.out.size.2) (fun q hq => by injection hq with hq; omega)))
          go_roundw
          case rel => exact ⟨j + 1, by simp, by omega, HS9.out, HR9.out⟩
          case measure => simp [intOf]; omega
        · have h3 : j = 3 := by omega
          subst h3
          have e1 : decide (((3 : Nat) : Int) < 3) = false := rfl
          obtain ⟨f, hrow, hf⟩ := HS.out.row
          have f0 := hf 0 (by decide)
          have f1 := hf 1 (by decide)
          have f2 := hf 2 (by decide)
          have hP2 := pack_two D
          have hPb := pack_bound D
          have hb0 := pack_len (l := D) (by rw [HDL.out]; omega) 0
          have hb1 := pack_len (l := D) (by rw [HDL.out]; omega) 1
          have r0 : wr.cell? ⟨H, 0, none⟩ = some (.int .i64 (f 0 : Int)) := hrow.ia (by decide)
          have r1 : wr.cell? ⟨H, 1, none⟩ = some (.int .i64 (f 1 : Int)) := hrow.ia (by decide)
          have r2 : wr.cell? ⟨H, 2, none⟩ = some (.int .i64 (f 2 : Int)) := hrow.ia (by decide)
          have HBF : RowKit.Hid (∀ q, Below w.heap.size w (wr.drewN q)) := Lib.hid (fun q => HS.out.below.grown (grown_drewN wr q) HS.out.below.size (fun _ h => by cases h))
          have e0 : ((0 : Nat) : Int) = 0 := rfl
          have e2 : ((1 : Nat) : Int) = 1 := rfl
          have e3 : ((2 : Nat) : Int) = 2 := rfl
          rw [e0] at f0
          rw [e2] at f1
          rw [e3] at f2
          rw [← f0, ← f1, ← f2] at hP2
          rw [← f2, HDL.out] at hPb
          rw [← f0] at hb0
          rw [← f1] at hb1
          clear hrow hf f0 f1 f2 HS HRX
          generalize f 0 = p0 at hP2 hb0 r0
          generalize f 1 = p1 at hP2 hb1 r1
          generalize f 2 = p2 at hP2 hPb r2
          obtain ⟨qq, hqq⟩ : ∃ qq, dl / 10 = qq := ⟨_, rfl⟩
          rw [hqq] at hPb
          have HBN := Lib.hid (fun w => bound_nat2 dl qq (by omega) hqq w)
          obtain ⟨bb, hbb⟩ : ∃ bb, dl + qq + 16 = bb := ⟨_, rfl⟩
          rw [hbb] at HBN hPb
          have dm : ((p2 : Int) == min (p0 : Int) (p1 : Int)) = true := min_eq3 p0 p1 p2 hP2
          have dm3 : decide ((p2 : Int) ≤ (bb : Int)) = true := decide_eq_true (by omega)
          clear hP2 hqq hbb
          go_wp2_with fail
          go_quiet (first | (go_at_call 11; exact Calls.quiet_of_same (HBN.out _)))
          go_wp2_with fail
          go_ret
          exact ⟨rfl, HBF.out _⟩
    · subst h1
      have d1 : decide ((k : Int) < (k : Int)) = false := decide_eq_false (by omega)
      go_wp2_with fail
      refine (tokens_any A2 dl c2 D wr HZ2.out.2.2 (by omega)).mono ?_
      rintro e w3 ⟨v3, rfl, ho3, hb3⟩
      obtain ⟨A3, c3, rfl, hz3, hd3⟩ := ho3.rd
      have HD3 := Lib.hid hd3
      have HJ3 := Lib.hid (HJ.out.next hb3)
      have HR3 := Lib.hid (HZ2.out.2.2.next hb3)
      have HUN := Lib.hid (untoks_any A3 c3 D w3 (by have := HDL.out; omega) hd3)
      clear ho3 hb3 hz3 hd3 HD3
      generalize (toksT D).length = tl at HUN ⊢
      go_wp2_with fail
      refine HUN.out.mono ?_
      rintro e w4 ⟨v4, rfl, hb4, ho4⟩
      obtain ⟨A4, c4, rfl⟩ := ho4.slice
      have HR4 := Lib.hid (HR3.out.next hb4)
      have HO4 : RowKit.Hid (Rd w4 w4.heap.size A4 dl (us D)) := Lib.hid (by have := ho4.rd.2; rwa [HDL.out] at this)
      have HJ4 := Lib.hid (HJ3.out.next hb4)
      rw [HDL.out]
      clear hb4 ho4 HUN HR3 HJ3
      go_wp2_with fail
      refine (bytes_same A4 A2 dl c4 c2 D w4 HO4.out HR4.out).mono ?_
      rintro e wz ⟨rfl, rfl⟩
      go_wp2_with fail
      have HB5 : RowKit.Hid (Below wz.heap.size wz (wz.alloc (.cells #[.int .i64 0, .int .i64 0, .int .i64 0] 32))) := Lib.hid (below_make (World.grownBy_alloc wz _ none))
      have HS5 : RowKit.Hid (SZ w (wz.alloc (.cells #[.int .i64 0, .int .i64 0, .int .i64 0] 32)) wz.heap.size D 0) := Lib.hid
        ⟨⟨fun _ => 0, by rw [show ia (fun _ => 0) 3 = #[.int .i64 0, .int .i64 0, .int .i64 0] from rfl]; exact heap_alloc_new wz _, fun j hj => by omega⟩, HJ4.out.below.trans (HB5.out.mono HJ4.out.below.size), HJ4.out.below.size, by simp⟩
      have HR5 := Lib.hid (HR4.out.below HB5.out)
      clear HB5 HO4 HR4 HJ4
      generalize wz.alloc (.cells #[.int .i64 0, .int .i64 0, .int .i64 0] 32) = w5 at HS5 HR5 ⊢
      generalize wz.heap.size = H at HS5 HR5 ⊢
      have HDM : RowKit.Hid (dl ≤ 30000 ∧ (A2 = none → c2 = 0) ∧ dl ≤ c2) := Lib.hid ⟨hle, HZ2.out.1, HZ2.out.2.1⟩
      go_loopw [51] (fun i wr => ∃ k : Nat, i = .int .i64 (k : Int) ∧ k ≤ 3 ∧ SZ w wr H D k ∧ Rd wr H A2 dl (us D)) (fun i _ => 3 - (intOf i).toNat)
      case atStart => exact ⟨0, rfl, by omega, HS5.out, HR5.out⟩
      case round =>
        clear HS5 HR5
        obtain ⟨j, rfl, hj, hS, hR⟩ := hrel
        have HS := Lib.hid hS
        have HRX := Lib.hid hR
        clear hS hR
        by_cases hlt : j < 3
        · have e1 : decide ((j : Int) < 3) = true := decide_eq_true (by omega)
          have hpl := pack_len (l := D) (by rw [HDL.out]; omega) (j : Int)
          go_wp2_with fail
          refine (deflate_any A2 dl c2 D (j : Int) _ (HRX.out.more (Nat.le_of_lt HS.out.size.2)) HDM.out.2.1 (by omega) HDM.out.2.2 (by omega)).mono ?_
          rintro e w6 ⟨v6, rfl, ho6, hb6⟩
          obtain ⟨A6, c6, rfl⟩ := ho6.slice
          have HS6 := Lib.hid (HS.out.next hb6)
          have HR6 := Lib.hid (HRX.out.below (hb6.mono (Nat.le_of_lt HS.out.size.2)))
          have HO6 := Lib.hid (And.intro (noCap' ho6) ho6.rd.2)
          clear ho6 hb6 HS HRX
          generalize hpq : (packT D (j : Int)).length = pl at hpl HO6 ⊢
          have HPQ := Lib.hid hpq
          clear hpq
          have HI := Lib.hid (unpack_any A6 pl c6 D (j : Int) w6 (by rw [HDL.out]; omega) HO6.out.2 HO6.out.1 (HTB.out w6 HS6.out.below).1 (HTB.out w6 HS6.out.below).2)
          rw [HDL.out] at HI
          go_wp2_with fail
          refine HI.out.mono ?_
          rintro e w7 ⟨hb7, u7, st, rfl, ho7⟩
          obtain ⟨A7, c7, rfl⟩ := ho7.slice
          rw [HDL.out]
          have HS7 := Lib.hid (HS6.out.next hb7)
          have HR7 := Lib.hid (HR6.out.below (hb7.mono (Nat.le_of_lt HS6.out.size.2)))
          have HO7 : RowKit.Hid (Rd w7 w7.heap.size A7 dl (us D)) := Lib.hid (by have := ho7.rd.2; rwa [HDL.out] at this)
          clear ho7 hb7 HS6 HR6 HI HO6
          go_wp2_with fail
          have HB8 : RowKit.Hid (Below w7.heap.size w7 (w7.alloc (.cells #[.slice A7 dl c7, .int .i64 (pl : Int), .int .i64 st] 35))) := Lib.hid (below_make (World.grownBy_alloc w7 _ none))
          have HS8 := Lib.hid (HS7.out.next HB8.out)
          have HR8 := Lib.hid (HR7.out.below (HB8.out.mono (Nat.le_of_lt HS7.out.size.2)))
          have HO8 := Lib.hid (HO7.out.next HB8.out)
          clear HB8 HS7 HR7 HO7
          generalize w7.alloc (.cells #[.slice A7 dl c7, .int .i64 (pl : Int), .int .i64 st] 35) = w8 at HS8 HR8 HO8 ⊢
          refine (bytes_same A7 A2 dl c7 c2 D w8 HO8.out (HR8.out.more (Nat.le_of_lt HS8.out.size.2))).mono ?_
          rintro e wy ⟨rfl, rfl⟩
          obtain ⟨f, hrow, hf⟩ := HS8.out.row
          have z1 := hrow.thawed j
          have z2 := hrow.ia hlt
          have z3 : (j : Int) < 3 := by omega
          go_wp2_with fail
          have HS9 := Lib.hid (HS8.out.set (pl : Int) (by rw [HPQ.out]))
          have HR9 := Lib.hid (HR8.out.below ((Below.refl H wy).grown (grown_setCell wy H j (.int .i64 (pl : Int))) (Nat.le_of_lt HS8.out.size.2) (fun q hq => by injection hq with hq; omega)))
          go_roundw
          case rel => exact ⟨j + 1, by simp, by omega, HS9.out, HR9.out⟩
          case measure => simp [intOf]; omega
        · have h3 : j = 3 := by omega
          subst h3
          have e1 : decide (((3 : Nat) : Int) < 3) = false := rfl
          obtain ⟨f, hrow, hf⟩ := HS.out.row
          have f0 := hf 0 (by decide)
          have f1 := hf 1 (by decide)
          have f2 := hf 2 (by decide)
          have hP2 := pack_two D
          have hPb := pack_bound D
          have hb0 := pack_len (l := D) (by rw [HDL.out]; omega) 0
          have hb1 := pack_len (l := D) (by rw [HDL.out]; omega) 1
          have r0 : wr.cell? ⟨H, 0, none⟩ = some (.int .i64 (f 0 : Int)) := hrow.ia (by decide)
          have r1 : wr.cell? ⟨H, 1, none⟩ = some (.int .i64 (f 1 : Int)) := hrow.ia (by decide)
          have r2 : wr.cell? ⟨H, 2, none⟩ = some (.int .i64 (f 2 : Int)) := hrow.ia (by decide)
          have HBF : RowKit.Hid (∀ q, Below w.heap.size w (wr.drewN q)) := Lib.hid (fun q => HS.out.below.grown (grown_drewN wr q) HS.out.below.size (fun _ h => by cases h))
          have e0 : ((0 : Nat) : Int) = 0 := rfl
          have e2 : ((1 : Nat) : Int) = 1 := rfl
          have e3 : ((2 : Nat) : Int) = 2 := rfl
          rw [e0] at f0
          rw [e2] at f1
          rw [e3] at f2
          rw [← f0, ← f1, ← f2] at hP2
          rw [← f2, HDL.out] at hPb
          rw [← f0] at hb0
          rw [← f1] at hb1
          clear hrow hf f0 f1 f2 HS HRX
          generalize f 0 = p0 at hP2 hb0 r0
          generalize f 1 = p1 at hP2 hb1 r1
          generalize f 2 = p2 at hP2 hPb r2
          obtain ⟨qq, hqq⟩ : ∃ qq, dl / 10 = qq := ⟨_, rfl⟩
          rw [hqq] at hPb
          have HBN := Lib.hid (fun w => bound_nat2 dl qq (by omega) hqq w)
          obtain ⟨bb, hbb⟩ : ∃ bb, dl + qq + 16 = bb := ⟨_, rfl⟩
          rw [hbb] at HBN hPb
          have dm : ((p2 : Int) == min (p0 : Int) (p1 : Int)) = true := min_eq3 p0 p1 p2 hP2
          have dm3 : decide ((p2 : Int) ≤ (bb : Int)) = true := decide_eq_true (by omega)
          clear hP2 hqq hbb
          go_wp2_with fail
          go_quiet (first | (go_at_call 11; exact Calls.quiet_of_same (HBN.out _)))
          go_wp2_with fail
          go_ret
          exact ⟨rfl, HBF.out _⟩
end Go.Proofs.YtpnnlhegncbfaaaDoor
