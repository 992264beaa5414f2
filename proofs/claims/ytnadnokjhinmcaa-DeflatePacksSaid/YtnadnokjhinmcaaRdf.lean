/- The reference's Deflate, given the contract of its Fixed; deflate's Bound. -/
import Derived.Test.YtnadnokjhinmcaaRpl
import Derived.Test.YtnadnokjhinmcaaDfl
import Derived.Lib.MinMax
namespace Go.Proofs.Ytnadnokjhinmcaa
open Go.RowKit

/-- The contract of the reference's Fixed. -/
def FixC : Prop := ∀ (A : Option Addr) (n c : Nat) (l : List UInt8) (w : World), Rd w w.heap.size A n (us l) → n ≤ 1000 →
    Calls Try.prog 26 #[.slice A n c] w fun e w' => ∃ v, e = .returned v ∧ Own w' w.heap.size v (tokT l) ∧ Below w.heap.size w w'

set_option maxHeartbeats 1000000 in
theorem rdeflate_range (A : Option Addr) (n c : Nat) (z : Int) (w : World) (hz : z < 0 ∨ 2 < z) :
    Calls Try.prog 15 #[.slice A n c, .int .i64 z] w fun e w' => e = .returned (.tuple #[.slice none 0 0, .int .i64 1]) ∧ w' = w := by
  by_cases h0 : z < 0
  · have d0 : decide (z < 0) = true := decide_eq_true h0
    clear hz h0
    go_enter Try.func15, Try.ntmps15
    go_wp2_with fail
    go_ret2
    exact ⟨rfl, rfl⟩
  · have d0 : decide (z < 0) = false := decide_eq_false h0
    have d1 : decide (2 < z) = true := decide_eq_true (by omega)
    clear hz h0
    go_enter Try.func15, Try.ntmps15
    go_wp2_with fail
    go_ret2
    exact ⟨rfl, rfl⟩

set_option maxHeartbeats 4000000 in
set_option maxRecDepth 10000 in
theorem rdeflate_any (hfix : FixC) (A : Option Addr) (n c : Nat) (l : List UInt8) (z : Int) (w : World) (hr : Rd w w.heap.size A n (us l)) (hA : A = none → c = 0) (hn : n ≤ 1000) (hnc : n ≤ c) (hz : 0 ≤ z ∧ z ≤ 2) :
    Calls Try.prog 15 #[.slice A n c, .int .i64 z] w fun e w' => ∃ v, e = .returned (.tuple #[v, .int .i64 0]) ∧ Own w' w.heap.size v (packT l z) ∧ Below w.heap.size w w' := by
  have HP : ∀ w', Below w.heap.size w w' → RowKit.Hid (Calls Try.prog 25 #[.slice A n c] w' fun e w'' => ∃ v, e = .returned v ∧ Own w'' w'.heap.size v (plainT l) ∧ Below w'.heap.size w' w'') := fun w' hb => Lib.hid (rplain_any A n c l w' (hr.next hb) hA (by omega) hnc)
  have HT : RowKit.Hid (Calls Try.prog 26 #[.slice A n c] w fun e w'' => ∃ v, e = .returned v ∧ Own w'' w.heap.size v (tokT l) ∧ Below w.heap.size w w'') := Lib.hid (hfix A n c l w hr hn)
  have d2 : decide (1048576 < (n : Int)) = false := decide_eq_false (by omega)
  clear hr hA hn hnc hfix
  by_cases h0 : z = 0
  · subst h0
    rw [show packT l 0 = plainT l from if_pos rfl]
    clear HT
    go_enter Try.func15, Try.ntmps15
    go_wp2_with fail
    refine (HP w (Below.refl _ _)).out.mono ?_
    rintro e w1 ⟨v, rfl, ho, hb⟩
    have HF := Lib.hid (And.intro ho hb)
    clear ho hb HP
    go_wp2_with fail
    go_ret2
    exact ⟨_, rfl, HF.out⟩
  · have hz12 : z = 1 ∨ z = 2 := by omega
    obtain ⟨X, HX⟩ : ∃ X, RowKit.Hid (packT l z = X) := ⟨_, Lib.hid rfl⟩
    rw [HX.out]
    have HX1 : RowKit.Hid (z = 1 → tokT l = X) := Lib.hid (fun h => by rw [← HX.out, h]; rfl)
    have HX2 : RowKit.Hid (z = 2 → (if (plainT l).length < (tokT l).length then plainT l else tokT l) = X) := Lib.hid (fun h => by rw [← HX.out, h]; rfl)
    clear HX h0 hz
    generalize plainT l = P at HP HX2
    generalize tokT l = T at HT HX1 HX2
    rcases hz12 with rfl | rfl
    · clear HX2
      have HX3 := Lib.hid (HX1.out rfl)
      clear HX1
      go_enter Try.func15, Try.ntmps15
      go_wp2_with fail
      refine HT.out.mono ?_
      rintro e w1 ⟨v, rfl, ho, hb⟩
      have HO1 := Lib.hid ho
      have HB1 := Lib.hid hb
      clear ho hb HT
      go_wp2_with fail
      refine (HP w1 HB1.out).out.mono ?_
      rintro e w2 ⟨u, rfl, ho, hb⟩
      have HF : RowKit.Hid (Own w2 w.heap.size v X ∧ Below w.heap.size w w2) := Lib.hid (by
        rw [← HX3.out]
        exact ⟨HO1.out.blocks (fun k hk => hb.block k (World.ownsRow.lt HO1.out k hk).2), HB1.out.trans (hb.mono HB1.out.size)⟩)
      clear ho hb HP HO1 HB1
      go_wp2_with fail
      go_ret2
      exact ⟨_, rfl, HF.out⟩
    · clear HX1
      have HX3 := Lib.hid (HX2.out rfl)
      clear HX2
      go_enter Try.func15, Try.ntmps15
      go_wp2_with fail
      refine HT.out.mono ?_
      rintro e w1 ⟨v, rfl, ho, hb⟩
      have HO1 := Lib.hid ho
      have HB1 := Lib.hid hb
      clear ho hb HT
      go_wp2_with fail
      refine (HP w1 HB1.out).out.mono ?_
      rintro e w2 ⟨u, rfl, ho, hb⟩
      have HO2 : RowKit.Hid (Own w2 w.heap.size v T) := Lib.hid (HO1.out.blocks (fun k hk => hb.block k (World.ownsRow.lt HO1.out k hk).2))
      have HP2 : RowKit.Hid (Own w2 w.heap.size u P) := Lib.hid (own_mono ho HB1.out.size)
      have HB2 : RowKit.Hid (Below w.heap.size w w2) := Lib.hid (HB1.out.trans (hb.mono HB1.out.size))
      clear ho hb HP HO1 HB1
      obtain ⟨Av, cv, rfl⟩ := HP2.out.slice
      obtain ⟨Au, cu, rfl⟩ := HO2.out.slice
      generalize hp : P.length = p at HP2 HX3 ⊢
      generalize ht : T.length = t at HO2 HX3 ⊢
      clear hp ht
      by_cases hlt : p < t
      · have d1 : decide ((p : Int) < (t : Int)) = true := decide_eq_true (by omega)
        have HX4 : RowKit.Hid (P = X) := Lib.hid (by rw [← HX3.out, if_pos hlt])
        clear HX3
        go_wp2_with fail
        go_ret2
        exact ⟨_, rfl, HX4.out ▸ HP2.out, HB2.out⟩
      · have d1 : decide ((p : Int) < (t : Int)) = false := decide_eq_false (by omega)
        have HX4 : RowKit.Hid (T = X) := Lib.hid (by rw [← HX3.out, if_neg hlt])
        clear HX3
        go_wp2_with fail
        go_ret2
        exact ⟨_, rfl, HX4.out ▸ HO2.out, HB2.out⟩

set_option maxHeartbeats 1000000 in
theorem bound_nat (n q : Nat) (h : n ≤ 1000) (hq : n / 10 = q) (w : World) : Calls Try.prog 16 #[.int .i64 (n : Int)] w fun e w' => e = .returned (.int .i64 ((n : Int) + (q : Int) + 16)) ∧ w' = w := by
  have e0 : max (0 : Int) (n : Int) = (n : Int) := by omega
  have e1 : (n : Int).tdiv 10 = (q : Int) := by rw [Int.tdiv_eq_ediv_of_nonneg (by omega)]; omega
  have e2 : (n : Int) / 10 = (q : Int) := by omega
  have E5 : RowKit.Hid (wrap64 (q : Int) = (q : Int)) := Lib.hid (by unfold wrap64; omega)
  have E3 : RowKit.Hid (wrap64 ((n : Int) + (q : Int)) = (n : Int) + (q : Int)) := Lib.hid (by unfold wrap64; omega)
  have E4 : RowKit.Hid (wrap64 ((n : Int) + (q : Int) + 16) = (n : Int) + (q : Int) + 16) := Lib.hid (by unfold wrap64; omega)
  clear hq h
  go_enter Try.func16, Try.ntmps16
  go_wp2_with fail
  go_ret
  refine ⟨?_, rfl⟩
  show Ending.returned (.int .i64 (wrap64 (wrap64 ((n : Int) + wrap64 (q : Int)) + 16))) = _
  rw [E5.out, E3.out, E4.out]
set_option maxHeartbeats 1000000 in
theorem bound_neg (x : Int) (h1 : -2000 ≤ x) (h2 : x < 0) (w : World) : Calls Try.prog 16 #[.int .i64 x] w fun e w' => e = .returned (.int .i64 16) ∧ w' = w := by
  have e0 : max (0 : Int) x = 0 := by omega
  clear h1 h2
  go_enter Try.func16, Try.ntmps16
  go_wp2_with fail
  go_ret
  exact ⟨rfl, rfl⟩
end Go.Proofs.Ytnadnokjhinmcaa
