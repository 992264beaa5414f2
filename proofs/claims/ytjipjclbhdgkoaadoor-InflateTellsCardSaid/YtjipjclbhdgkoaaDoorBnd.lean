/- The law InflateBounds. -/
import Derived.Test.YtjipjclbhdgkoaaDoorAlv
namespace Go.Proofs.YtjipjclbhdgkoaaDoor
open Go.RowKit

theorem bits_of (l : List UInt8) : Bits (bitsL l) := ⟨bin_bitsL l, by rw [bitsL_length]; omega⟩
/-- What Inflate leaves, whatever the limit. -/
def InfA (w : World) (l : List UInt8) (x : Int) (e : Ending) (w' : World) : Prop :=
  Below w.heap.size w w' ∧
    ((∃ k : Int, ((x < 0 ∨ 1048576 < x) ∧ k = 1 ∨ (¬ (x < 0 ∨ 1048576 < x) ∧ ∃ j : Nat, k = (j : Int) ∧ inflF (8 * l.length + 1) (bitsL l) x.toNat = .error j)) ∧ e = .returned (.tuple #[zeroR, .iface 39 (.int .i64 k)])) ∨
     (∃ s u, ¬ (x < 0 ∨ 1048576 < x) ∧ inflF (8 * l.length + 1) (bitsL l) x.toNat = .ok ((), s) ∧ e = .returned (.tuple #[.agg #[u, .int .i64 (((s.pos + 7) / 8 : Nat) : Int), .int .i64 (s.steps : Int)], .nilIface]) ∧ Own w' w.heap.size u s.out))
theorem inflate_all (A : Option Addr) (n c : Nat) (l : List UInt8) (x : Int) (w : World) (hr : Rd w w.heap.size A n (us l)) (hA : A = none → c = 0) (hn : n ≤ 1000000) (ht : Tab w) (h0 : 0 < w.heap.size) :
    Calls Tryd.prog 8 #[.slice A n c, .int .i64 x] w (InfA w l x) := by
  by_cases hx : x < 0 ∨ 1048576 < x
  · refine (inflate_range A n c x w hx).mono ?_
    rintro e w' ⟨rfl, hb⟩
    exact ⟨hb, .inl ⟨1, .inl ⟨hx, rfl⟩, rfl⟩⟩
  · obtain ⟨m, rfl⟩ : ∃ m : Nat, x = (m : Int) := ⟨x.toNat, by omega⟩
    refine (inflate_any A n c l m w hr hA hn (by omega) ht h0).mono ?_
    rintro e w' ⟨hb, ⟨k, hk, rfl⟩ | ⟨s, u, hs, rfl, hu⟩⟩
    · exact ⟨hb, .inl ⟨k, .inr ⟨hx, k, rfl, hk⟩, rfl⟩⟩
    · exact ⟨hb, .inr ⟨s, u, hx, hs, rfl, hu⟩⟩

set_option maxHeartbeats 2000000 in
set_option maxRecDepth 20000 in
theorem bounds_any (A : Option Addr) (n c : Nat) (l : List UInt8) (x : Int) (w : World) (hr : Rd w w.heap.size A n (us l)) (hA : A = none → c = 0) (ht : Tab w) (h0 : 0 < w.heap.size) :
    Calls Tryd.prog 4 #[.slice A n c, .int .i64 x] w fun e w' => e = .returned (.bool true) ∧ Below w.heap.size w w' := by
  have HL : RowKit.Hid (l.length = n) := Lib.hid (by have := hr.1; rwa [us_length] at this)
  have HR := Lib.hid hr
  have HA := Lib.hid hA
  have HT := Lib.hid (And.intro ht h0)
  clear hr hA ht h0
  go_enter Tryd.func4, Tryd.ntmps4
  go_wp2_with fail
  refine (alive_true w HT.out.1 HT.out.2).mono ?_
  rintro e w1 ⟨rfl, hb1⟩
  have HB1 := Lib.hid hb1
  clear hb1
  by_cases hbig : 2000 < n
  · have hd : decide (2000 < (n : Int)) = true := decide_eq_true (by omega)
    go_wp2_with fail
    go_ret
    exact ⟨rfl, HB1.out⟩
  have hd : decide (2000 < (n : Int)) = false := decide_eq_false (by omega)
  go_wp2_with fail
  refine (inflate_all A n c l x w1 (HR.out.next HB1.out) HA.out (by omega) (HT.out.1.below HT.out.2 HB1.out) (Nat.lt_of_lt_of_le HT.out.2 HB1.out.size)).mono ?_
  rintro e w2 ⟨hb2, ⟨k, _, rfl⟩ | ⟨s, u, hx, hs, rfl, hu⟩⟩
  · have HB2 : ∀ cs, RowKit.Hid (Below w.heap.size w (w2.alloc (.cells cs 25))) := fun cs => Lib.hid (by
      have h2 := HB1.out.trans (hb2.mono HB1.out.size)
      exact h2.grown (World.grownBy_alloc w2 _ none) h2.size (fun _ h => by cases h))
    clear hb2
    unfold zeroR
    go_wp2_with fail
    go_ret
    exact ⟨rfl, (HB2 _).out⟩
  · have HB2 : ∀ cs, RowKit.Hid (Below w.heap.size w (w2.alloc (.cells cs 25))) := fun cs => Lib.hid (by
      have h2 := HB1.out.trans (hb2.mono HB1.out.size)
      exact h2.grown (World.grownBy_alloc w2 _ none) h2.size (fun _ h => by cases h))
    obtain ⟨g1, g2, g3, g4⟩ := infl_bounds (bits_of l) hs
    rw [bitsL_length, HL.out] at g2
    obtain ⟨A2, c2, rfl⟩ := hu.slice
    obtain ⟨q, hq⟩ : ∃ q, s.out.length = q := ⟨_, rfl⟩
    obtain ⟨us, hus⟩ : ∃ us, (s.pos + 7) / 8 = us := ⟨_, rfl⟩
    obtain ⟨st, hst⟩ : ∃ st, s.steps = st := ⟨_, rfl⟩
    rw [hq, hus, hst]
    rw [hq] at g3
    rw [hst] at g4
    have e1 : decide ((q : Int) ≤ x) = true := decide_eq_true (by omega)
    have e2 : decide ((us : Int) ≤ (n : Int)) = true := decide_eq_true (by omega)
    have e3 : decide (0 < (us : Int)) = true := decide_eq_true (by omega)
    obtain ⟨m8, hm8⟩ : ∃ m8 : Nat, 8 * us = m8 := ⟨_, rfl⟩
    have e4 : 8 * (us : Int) = (m8 : Int) := by omega
    have e5 : decide ((st : Int) ≤ (m8 : Int) + 1) = true := decide_eq_true (by omega)
    have hm9 : m8 ≤ 20000 := by omega
    have n2 : us ≤ n := by omega
    have n3 : 0 < us := by omega
    have n5 : st ≤ m8 + 1 := by omega
    have n6 : (st : Int) ≤ (m8 : Int) + 1 := by omega
    have us2 : us ≤ 2000 := by omega
    clear hb2 hu g1 g2 g3 g4 hq hus hst hm8 hs hx
    go_wp2_with fail
    go_ret
    exact ⟨rfl, (HB2 _).out⟩
end Go.Proofs.YtjipjclbhdgkoaaDoor
