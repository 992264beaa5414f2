/- Contract of the law HuffApart. -/
import Derived.Test.YtfkbaagigdjbpaaRfx
namespace Go.Proofs.Ytfkbaagigdjbpaa
open Go.RowKit

theorem ia_is (f : Nat → Nat) (n : Nat) : (ia f n).toList = is ((List.range n).map fun i => (f i : Int)) := by simp [ia, is]
theorem code_apartI {l : List Nat} {a b : Int} (hn : a ≠ b) (hs : lenI l a ≠ 0) (h : lenI l a ≤ lenI l b) : codeI l b / 2 ^ (lenI l b - lenI l a) ≠ codeI l a := by
  have ha : ¬ a < 0 := fun h0 => hs (by unfold lenI; rw [if_pos h0])
  have hb : ¬ b < 0 := fun h0 => by unfold lenI at h hs; rw [if_pos h0] at h; omega
  obtain ⟨s, rfl⟩ : ∃ s : Nat, a = (s : Int) := ⟨a.toNat, by omega⟩
  obtain ⟨t, rfl⟩ : ∃ t : Nat, b = (t : Int) := ⟨b.toNat, by omega⟩
  rw [lenI_nat] at hs h
  rw [lenI_nat] at h
  rw [lenI_nat, lenI_nat, codeI_nat, codeI_nat]
  exact code_apart (fun e => hn (by rw [e])) hs h
theorem lenI_low {l : List Nat} (h : Low l) (s : Int) : lenI l s ≤ 15 := by
  unfold lenI
  split
  · omega
  · exact lenAt_low h _

set_option maxHeartbeats 400000 in
theorem apart_long (A : Option Addr) (n c : Nat) (a b : Int) (w : World) (hn : 330 < n) :
    Calls Try.prog 6 #[.slice A n c, .int .i64 a, .int .i64 b] w fun e w' => e = .returned (.bool true) ∧ Below w.heap.size w w' := by
  have hd : decide ((330 : Int) < (n : Int)) = true := decide_eq_true (by omega)
  go_enter Try.func6, Try.ntmps6
  go_wp2_with fail
  refine (alive_true w).mono ?_
  rintro e w1 ⟨rfl, hb1⟩
  have HB1 := Lib.hid hb1
  clear hb1
  go_wp2_with fail
  go_ret
  exact ⟨rfl, HB1.out⟩

set_option maxHeartbeats 2000000 in
theorem apart_any (A : Option Addr) (n c : Nat) (L : List Int) (a b : Int) (w : World) (hr : Rd w w.heap.size A n (is L)) (hA : A = none → c = 0) (hn : n ≤ 330) :
    Calls Try.prog 6 #[.slice A n c, .int .i64 a, .int .i64 b] w fun e w' => e = .returned (.bool true) ∧ Below w.heap.size w w' := by
  have hd : decide ((330 : Int) < (n : Int)) = false := decide_eq_false (by omega)
  have HR := Lib.hid hr
  have HA := Lib.hid hA
  have HN := Lib.hid hn
  clear hr hA
  go_enter Try.func6, Try.ntmps6
  go_wp2_with fail
  refine (alive_true w).mono ?_
  rintro e w1 ⟨rfl, hb1⟩
  have HB1 := Lib.hid hb1
  clear hb1
  go_wp2_with fail
  refine (fixed_any w1).mono ?_
  rintro e w2 ⟨p1, q1, rfl, rp1, rq1, hb2⟩
  have HB2 := Lib.hid (HB1.out.trans (hb2.mono HB1.out.size))
  have HX2 := Lib.hid (And.intro rp1 rq1)
  clear rp1 rq1 hb2 HB1
  go_wp2_with fail
  refine (rfixed_any w2).mono ?_
  rintro e w3 ⟨p2, q2, rfl, rp2, rq2, hb3⟩
  have HB3 := Lib.hid (HB2.out.trans (hb3.mono HB2.out.size))
  have HX3 := Lib.hid (show (Row w3 p1 (ia fixL 288) 3 ∧ Row w3 q1 (ia (fun _ => 5) 30) 3) ∧ Row w3 p2 (ia fixL 288) 3 ∧ Row w3 q2 (ia (fun _ => 5) 30) 3 from ⟨⟨HX2.out.1.below hb3 HX2.out.1.lt, HX2.out.2.below hb3 HX2.out.2.lt⟩, rp2, rq2⟩)
  clear rp2 rq2 hb3 HB2 HX2
  go_wp2_with fail
  refine (ints_same _ 288 288 _ 288 288 ((List.range 288).map fun i => (fixL i : Int)) w3 (by rw [← ia_is]; exact HX3.out.1.1.rdI HX3.out.1.1.lt) (by rw [← ia_is]; exact HX3.out.2.1.rdI HX3.out.2.1.lt) (by decide)).mono ?_
  rintro e w4 ⟨rfl, m4, hw4⟩
  have hg4 : w3.grownBy w4 none := by rw [hw4]; exact grown_drewN _ _
  have HB4 := Lib.hid (HB3.out.grown hg4 HB3.out.size (fun _ h => by cases h))
  have HX4 := Lib.hid (And.intro (HX3.out.1.2.grown hg4 (by simp)) (HX3.out.2.2.grown hg4 (by simp)))
  clear hg4 hw4 HB3 HX3
  go_wp2_with fail
  refine (ints_same _ 30 30 _ 30 30 ((List.range 30).map fun _ => ((5 : Nat) : Int)) w4 (by rw [← ia_is (fun _ => 5)]; exact HX4.out.1.rdI HX4.out.1.lt) (by rw [← ia_is (fun _ => 5)]; exact HX4.out.2.rdI HX4.out.2.lt) (by decide)).mono ?_
  rintro e w5 ⟨rfl, m5, hw5⟩
  have hg5 : w4.grownBy w5 none := by rw [hw5]; exact grown_drewN _ _
  have HB5 := Lib.hid (HB4.out.grown hg5 HB4.out.size (fun _ h => by cases h))
  clear hg5 hw5 HB4 HX4
  go_wp2_with fail
  refine (newReader_any none 0 0 [] w5 ⟨rfl, fun h => by omega⟩ (fun _ => rfl) (by decide)).mono ?_
  rintro e w6 ⟨g6, A6, c6, rfl, _, _, _, _, _, _, _, hg6⟩
  have HB6 := Lib.hid (HB5.out.grown hg6 HB5.out.size (fun _ h => by cases h))
  clear hg6 HB5
  go_wp2_with fail
  refine (htake_nil _ w6).mono ?_
  rintro e w7 ⟨rfl, rfl⟩
  go_wp2_with fail
  refine (len_nil w7).mono ?_
  rintro e w8 ⟨rfl, rfl⟩
  go_wp2_with fail
  refine (is_same 4 w8).mono ?_
  rintro e w9 ⟨rfl, rfl⟩
  go_wp2_with fail
  refine (newWriter_any w9).mono ?_
  rintro e w10 ⟨rfl, _, hg10⟩
  have HB10 := Lib.hid (HB6.out.grown hg10 HB6.out.size (fun _ h => by cases h))
  clear hg10 HB6
  go_wp2_with fail
  refine (hput_nil _ 0 w10).mono ?_
  rintro e w11 ⟨rfl, rfl⟩
  go_wp2_with fail
  refine (is_same 4 w11).mono ?_
  rintro e w12 ⟨rfl, rfl⟩
  go_wp2_with fail
  refine (new_any A n c L true w12 (HR.out.next HB10.out) HA.out (by have := HN.out; omega)).mono ?_
  rintro e w13 ⟨hb13, hno, hyes⟩
  have HB13 := Lib.hid (HB10.out.trans (hb13.mono HB10.out.size))
  clear hb13 HB10
  by_cases hz : newE L true = 0
  · obtain ⟨g, rfl, hc⟩ := hyes hz
    have HC := Lib.hid hc
    have hx := lenI_low hc.low a
    have hy := lenI_low hc.low b
    have HAP := Lib.hid (fun h1 h2 h3 => code_apartI (l := nats L) (a := a) (b := b) h1 h2 h3)
    clear hz hno hyes hc
    go_wp2_with fail
    refine (of_any _ g _ a w13 HC.out).mono ?_
    rintro e w14 ⟨rfl, m14, hw14⟩
    have hg14 : w13.grownBy w14 none := by rw [hw14]; exact grown_drewN _ _
    have HB14 := Lib.hid (HB13.out.grown hg14 HB13.out.size (fun _ h => by cases h))
    have HC14 := Lib.hid (HC.out.grown (Nat.le_refl _) hg14 (fun _ h => by cases h))
    clear hg14 hw14 HC HB13
    go_wp2_with fail
    refine (of_any _ g _ b w14 HC14.out).mono ?_
    rintro e w15 ⟨rfl, m15, hw15⟩
    have hg15 : w14.grownBy w15 none := by rw [hw15]; exact grown_drewN _ _
    have HB15 := Lib.hid (HB14.out.grown hg15 HB14.out.size (fun _ h => by cases h))
    clear hg15 hw15 HC14 HB14
    generalize lenI (nats L) a = x at hx HAP ⊢
    generalize lenI (nats L) b = y at hy HAP ⊢
    generalize codeI (nats L) a = u at HAP ⊢
    generalize codeI (nats L) b = v at HAP ⊢
    by_cases hab : a = b
    · have d1 : (a == b) = true := by rw [beq_iff_eq]; exact hab
      clear hab
      go_wp2_with fail
      go_ret
      exact ⟨rfl, HB15.out⟩
    · have d1 : (a == b) = false := by rw [beq_eq_false_iff_ne]; exact hab
      by_cases hx0 : x = 0
      · have d2 : ((x : Int) == 0) = true := by rw [beq_iff_eq]; omega
        clear hx0 hab
        go_wp2_with fail
        go_ret
        exact ⟨rfl, HB15.out⟩
      · have d2 : ((x : Int) == 0) = false := by rw [beq_eq_false_iff_ne]; omega
        by_cases hyx : y < x
        · have d3 : decide ((y : Int) < (x : Int)) = true := decide_eq_true (by omega)
          clear hx0 hab
          go_wp2_with fail
          go_ret
          exact ⟨rfl, HB15.out⟩
        · have d3 : decide ((y : Int) < (x : Int)) = false := decide_eq_false (by omega)
          have hne := HAP.out hab hx0 (by omega)
          obtain ⟨d, hd2⟩ : ∃ d, y - x = d := ⟨_, rfl⟩
          rw [hd2] at hne
          have hsub : (y : Int) - (x : Int) = (d : Int) := by omega
          have hd15 : d ≤ 15 := by omega
          have d4 : ((v : Int) / 2 ^ d != (u : Int)) = true := by
            rw [bne_iff_ne]
            intro e
            apply hne
            exact_mod_cast e
          have hyx2 : ¬ y < x := hyx
          clear hx0 hab hne hd2 HAP
          go_wp2_with fail
          go_ret
          exact ⟨rfl, HB15.out⟩
  · obtain rfl := hno hz
    obtain ⟨k, hk⟩ : ∃ k, newE L true = k + 1 := ⟨newE L true - 1, by omega⟩
    rw [hk, show errV (k + 1) = .iface 52 (.int .i64 ((k + 1 : Nat) : Int)) from rfl]
    clear hz hno hyes hk
    go_wp2_with fail
    go_ret
    exact ⟨rfl, HB13.out⟩
end Go.Proofs.Ytfkbaagigdjbpaa
