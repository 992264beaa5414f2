/- The law InflateTells, given the contract of the reference's told. -/
import Derived.Test.YtjipjclbhdgkoaaDoorRin
import Derived.Test.YtjipjclbhdgkoaaDoorMor
namespace Go.Proofs.YtjipjclbhdgkoaaDoor
open Go.RowKit

set_option maxHeartbeats 1000000 in
theorem rinflate_range (A : Option Addr) (n c : Nat) (x : Int) (w : World) (hx : x < 0 ∨ 1048576 < x) :
    Calls Tryd.prog 9 #[.slice A n c, .int .i64 x] w fun e w' => e = .returned (.tuple #[.slice none 0 0, .int .i64 0, .int .i64 0, .int .i64 1]) ∧ w' = w := by
  by_cases h0 : x < 0
  · have d0 : decide (x < 0) = true := decide_eq_true h0
    clear hx
    go_enter Tryd.func9, Tryd.ntmps9
    go_wp2_with fail
    refine bodyPost_ret (results_four rfl _ _ _ _ _ _ rfl rfl rfl rfl) rfl ⟨rfl, rfl⟩
  · have d0 : decide (x < 0) = false := decide_eq_false h0
    have d1 : decide (1048576 < x) = true := decide_eq_true (by omega)
    clear hx
    go_enter Tryd.func9, Tryd.ntmps9
    go_wp2_with fail
    refine bodyPost_ret (results_four rfl _ _ _ _ _ _ rfl rfl rfl rfl) rfl ⟨rfl, rfl⟩
/-- Both sides, whatever the limit. -/
def BothS (w : World) (l : List UInt8) (x : Int) (e : Ending) (w' : World) : Prop :=
  Below w.heap.size w w' ∧
    ((∃ k : Nat, ((x < 0 ∨ 1048576 < x) ∧ k = 1 ∨ (¬ (x < 0 ∨ 1048576 < x) ∧ inflF (8 * l.length + 1) (bitsL l) x.toNat = .error k)) ∧ k ≠ 0 ∧ e = .returned (.tuple #[.slice none 0 0, .int .i64 0, .int .i64 0, .int .i64 (k : Int)])) ∨
     (∃ s u, ¬ (x < 0 ∨ 1048576 < x) ∧ inflF (8 * l.length + 1) (bitsL l) x.toNat = .ok ((), s) ∧ e = .returned (.tuple #[u, .int .i64 (((s.pos + 7) / 8 : Nat) : Int), .int .i64 (s.steps : Int), .int .i64 0]) ∧ Own w' w.heap.size u s.out))
theorem rinflate_all (hTC : ToldC) (A : Option Addr) (n c : Nat) (l : List UInt8) (x : Int) (w : World) (hr : Rd w w.heap.size A n (us l)) (hn : n ≤ 1000) :
    Calls Tryd.prog 9 #[.slice A n c, .int .i64 x] w (BothS w l x) := by
  by_cases hx : x < 0 ∨ 1048576 < x
  · refine (rinflate_range A n c x w hx).mono ?_
    rintro e w' ⟨rfl, rfl⟩
    exact ⟨Below.refl _ _, .inl ⟨1, .inl ⟨hx, rfl⟩, by decide, rfl⟩⟩
  · obtain ⟨m, rfl⟩ : ∃ m : Nat, x = (m : Int) := ⟨x.toNat, by omega⟩
    refine (rinflate_any hTC A n c l m w hr hn (by omega)).mono ?_
    rintro e w' ⟨hb, ⟨k, hk, hk0, rfl⟩ | ⟨s, u, hs, rfl, hu⟩⟩
    · exact ⟨hb, .inl ⟨k, .inr ⟨hx, hk⟩, hk0, rfl⟩⟩
    · exact ⟨hb, .inr ⟨s, u, hx, hs, rfl, hu⟩⟩

set_option maxHeartbeats 4000000 in
set_option maxRecDepth 20000 in
theorem tells_told (hTC : ToldC) (A : Option Addr) (n c : Nat) (l : List UInt8) (x : Int) (w : World) (hr : Rd w w.heap.size A n (us l)) (hA : A = none → c = 0) (ht : Tab w) (h0 : 0 < w.heap.size) :
    Calls Tryd.prog 3 #[.slice A n c, .int .i64 x] w fun e w' => e = .returned (.bool true) ∧ Below w.heap.size w w' := by
  have HL : RowKit.Hid (l.length = n) := Lib.hid (by have := hr.1; rwa [us_length] at this)
  have HTC := Lib.hid hTC
  have HR := Lib.hid hr
  have HA := Lib.hid hA
  have HT := Lib.hid (And.intro ht h0)
  clear hr hA ht h0 hTC
  by_cases hbig : 200 < n
  · have hd : decide (200 < (n : Int)) = true := decide_eq_true (by omega)
    go_enter Tryd.func3, Tryd.ntmps3
    go_wp2_with fail
    refine (alive_true w HT.out.1 HT.out.2).mono ?_
    rintro e w1 ⟨rfl, hb1⟩
    have HB1 := Lib.hid hb1
    clear hb1
    go_wp2_with fail
    go_ret
    exact ⟨rfl, HB1.out⟩
  have hd : decide (200 < (n : Int)) = false := decide_eq_false (by omega)
  by_cases hx3 : 3000 < x
  · have hdx : decide (3000 < x) = true := decide_eq_true hx3
    by_cases hx4 : x ≤ 1048576
    · have hdy : decide (x ≤ 1048576) = true := decide_eq_true hx4
      go_enter Tryd.func3, Tryd.ntmps3
      go_wp2_with fail
      refine (alive_true w HT.out.1 HT.out.2).mono ?_
      rintro e w1 ⟨rfl, hb1⟩
      have HB1 := Lib.hid hb1
      have HB2 : RowKit.Hid (Below w.heap.size w (w1.alloc (.cells #[] 5))) := Lib.hid (hb1.alloc hb1.size _)
      have HO0 := Lib.hid (Own.lit w1 #[] [] 0 rfl rfl (by decide))
      clear hb1
      go_wp2_with (at_builtin; refine cat8b (w1.alloc (.cells #[] 5)) rfl (.tmp 23) (.tmp 24) rfl w1.heap.size w.heap.size _ [] l A n c rfl rfl HO0.out (HR.out.below HB2.out) HA.out (by simp) (by simp; omega) ?_)
      intro v2 w2 ho2 hg2 _
      have hb2 : Below w.heap.size w w2 := HB2.out.grown hg2 HB2.out.size (fun k hk => by have := (World.ownsRow.lt HO0.out k hk).1; have := HB1.out.size; omega)
      change Own w2 w1.heap.size v2 l at ho2
      obtain ⟨A2, c2, hv2⟩ := ho2.slice
      rw [HL.out] at hv2
      subst hv2
      have HO2 := Lib.hid ho2
      have HB3 := Lib.hid hb2
      clear ho2 hg2 hb2 HO0 HB2
      go_wp2_with fail
      refine (inflate_all A2 n c2 l 3000 w2 HO2.out.rd.2 HO2.out.capz (by omega) (HT.out.1.below HT.out.2 HB3.out) (Nat.lt_of_lt_of_le HT.out.2 HB3.out.size)).mono ?_
      rintro e w3 ⟨hb3, ⟨kk, hkk, rfl⟩ | ⟨s, u, hx, hs, rfl, hu⟩⟩
      · have hB3 := HB3.out.trans (hb3.mono HB3.out.size)
        have hga := World.grownBy_alloc w3 (.cells #[.slice none 0 0, .int .i64 0, .int .i64 0] 25) none
        have HB4 := Lib.hid (hB3.grown hga hB3.size (fun _ h => by cases h))
        have HD4 := Lib.hid ((HO2.out.rd.2.next hb3).next (below_make hga))
        have hrow := Row.new w3 #[.slice none 0 0, .int .i64 0, .int .i64 0] 25
        have HRW := Lib.hid hrow
        clear hb3 hB3 hga hrow
        unfold zeroR
        go_wp2_with fail
        refine (rinflate_all HTC.out A n c l 3000 _ (HR.out.next HB4.out) (by omega)).mono ?_
        rintro e w5 ⟨hb5, ⟨k2, hk2, hk0, rfl⟩ | ⟨s2, u2, hx2, hs2, rfl, hu2⟩⟩
        rotate_left
        · exfalso
          rcases hkk with ⟨h1, _⟩ | ⟨_, j, _, h2⟩
          · exact hx2 h1
          · rw [h2] at hs2; cases hs2
        have hke : kk = (k2 : Int) := by
          rcases hkk with ⟨h1, rfl⟩ | ⟨h1, j, rfl, h2⟩
          · rcases hk2 with ⟨_, rfl⟩ | ⟨h3, _⟩
            · rfl
            · exact absurd h1 h3
          · rcases hk2 with ⟨h3, _⟩ | ⟨_, h4⟩
            · exact absurd h3 h1
            · rw [h2] at h4; injection h4 with h4; rw [h4]
        subst hke
        obtain ⟨j, rfl⟩ : ∃ j, k2 = j + 1 := ⟨k2 - 1, by omega⟩
        have HNU := Lib.hid (num_any (j + 1) w5)
        rw [show errV (j + 1) = .iface 39 (.int .i64 ((j + 1 : Nat) : Int)) from rfl] at HNU
        obtain ⟨z, hz⟩ : ∃ z : Int, ((j + 1 : Nat) : Int) = z := ⟨_, rfl⟩
        rw [hz] at HNU ⊢
        have hz0 : (z == 0) = false := by rw [beq_eq_false_iff_ne]; omega
        have hz1 : ¬ z = 0 := by omega
        have HB5 := Lib.hid (HB4.out.trans (hb5.mono HB4.out.size))
        have HD5 := Lib.hid (HD4.out.next hb5)
        have HE5 := Lib.hid (HR.out.next HB5.out)
        have r5 := HRW.out.below hb5 HRW.out.lt
        have k0 : w5.cell? ⟨w3.heap.size, 0, none⟩ = some (.slice none 0 0) := r5.cell 0
        have k1 : w5.cell? ⟨w3.heap.size, 1, none⟩ = some (.int .i64 0) := r5.cell 1
        have k2 : w5.cell? ⟨w3.heap.size, 2, none⟩ = some (.int .i64 0) := r5.cell 2
        clear hb5 hkk hk2 hz r5 hk0
        go_wp2_with fail
        refine HNU.out.mono ?_
        rintro e wz ⟨rfl, rfl⟩
        go_wp2_with fail
        refine (bytes_same A2 A n c2 c l _ HD5.out HE5.out).mono ?_
        rintro e wz ⟨rfl, rfl⟩
        go_wp2_with fail
        go_ret
        exact ⟨rfl, HB5.out⟩
      · obtain ⟨Au, cu, hvu⟩ := hu.slice
        obtain ⟨q, hq⟩ : ∃ q, s.out.length = q := ⟨_, rfl⟩
        obtain ⟨ud, hud⟩ : ∃ ud, (s.pos + 7) / 8 = ud := ⟨_, rfl⟩
        obtain ⟨st, hst⟩ : ∃ st, s.steps = st := ⟨_, rfl⟩
        rw [hq] at hvu
        subst hvu
        rw [hud, hst]
        have hB3 := HB3.out.trans (hb3.mono HB3.out.size)
        have hga := World.grownBy_alloc w3 (.cells #[.slice Au q cu, .int .i64 (ud : Int), .int .i64 (st : Int)] 25) none
        have HB4 := Lib.hid (hB3.grown hga hB3.size (fun _ h => by cases h))
        have HD4 := Lib.hid ((HO2.out.rd.2.next hb3).next (below_make hga))
        have HU4 := Lib.hid (hu.rd.2.next (below_make hga))
        have hrow := Row.new w3 #[.slice Au q cu, .int .i64 (ud : Int), .int .i64 (st : Int)] 25
        have HRW := Lib.hid hrow
        have HS := Lib.hid (And.intro hx hs)
        have HN := Lib.hid (And.intro hq (And.intro hud hst))
        clear hb3 hB3 hga hrow hu hx hs hq hud hst
        go_wp2_with fail
        refine (rinflate_all HTC.out A n c l 3000 _ (HR.out.next HB4.out) (by omega)).mono ?_
        rintro e w5 ⟨hb5, ⟨k2, hk2, hk0, rfl⟩ | ⟨s2, u2, hx2, hs2, rfl, hu2⟩⟩
        · exfalso
          rcases hk2 with ⟨h1, _⟩ | ⟨_, h2⟩
          · exact HS.out.1 h1
          · rw [HS.out.2] at h2; cases h2
        rw [HS.out.2] at hs2
        injection hs2 with hs2
        injection hs2 with _ hs2
        subst hs2
        obtain ⟨Aw, cw, hvw⟩ := hu2.slice
        rw [HN.out.1] at hvw
        subst hvw
        rw [HN.out.2.1, HN.out.2.2]
        have HNU := Lib.hid (num_any 0 w5)
        rw [show errV 0 = .nilIface from rfl] at HNU
        have HB5 := Lib.hid (HB4.out.trans (hb5.mono HB4.out.size))
        have HD5 := Lib.hid (HD4.out.next hb5)
        have HE5 := Lib.hid (HR.out.next HB5.out)
        have HU5 := Lib.hid (HU4.out.next hb5)
        have HW5 := Lib.hid hu2.rd.2
        have r5 := HRW.out.below hb5 HRW.out.lt
        have k0 : w5.cell? ⟨w3.heap.size, 0, none⟩ = some (.slice Au q cu) := r5.cell 0
        have k1 : w5.cell? ⟨w3.heap.size, 1, none⟩ = some (.int .i64 (ud : Int)) := r5.cell 1
        have k2 : w5.cell? ⟨w3.heap.size, 2, none⟩ = some (.int .i64 (st : Int)) := r5.cell 2
        clear hb5 hu2 r5 hx2
        go_wp2_with fail
        refine HNU.out.mono ?_
        rintro e wz ⟨rfl, rfl⟩
        go_wp2_with fail
        refine (bytes_same A2 A n c2 c l _ HD5.out HE5.out).mono ?_
        rintro e wz ⟨rfl, rfl⟩
        go_wp2_with fail
        refine (bytes_same Au Aw q cu cw s.out _ HU5.out HW5.out).mono ?_
        rintro e wz ⟨rfl, rfl⟩
        go_wp2_with fail
        go_ret
        exact ⟨rfl, HB5.out⟩
    · have hdy : decide (x ≤ 1048576) = false := decide_eq_false hx4
      go_enter Tryd.func3, Tryd.ntmps3
      go_wp2_with fail
      refine (alive_true w HT.out.1 HT.out.2).mono ?_
      rintro e w1 ⟨rfl, hb1⟩
      have HB1 := Lib.hid hb1
      have HB2 : RowKit.Hid (Below w.heap.size w (w1.alloc (.cells #[] 5))) := Lib.hid (hb1.alloc hb1.size _)
      have HO0 := Lib.hid (Own.lit w1 #[] [] 0 rfl rfl (by decide))
      clear hb1
      go_wp2_with (at_builtin; refine cat8b (w1.alloc (.cells #[] 5)) rfl (.tmp 23) (.tmp 24) rfl w1.heap.size w.heap.size _ [] l A n c rfl rfl HO0.out (HR.out.below HB2.out) HA.out (by simp) (by simp; omega) ?_)
      intro v2 w2 ho2 hg2 _
      have hb2 : Below w.heap.size w w2 := HB2.out.grown hg2 HB2.out.size (fun k hk => by have := (World.ownsRow.lt HO0.out k hk).1; have := HB1.out.size; omega)
      change Own w2 w1.heap.size v2 l at ho2
      obtain ⟨A2, c2, hv2⟩ := ho2.slice
      rw [HL.out] at hv2
      subst hv2
      have HO2 := Lib.hid ho2
      have HB3 := Lib.hid hb2
      clear ho2 hg2 hb2 HO0 HB2
      go_wp2_with fail
      refine (inflate_all A2 n c2 l x w2 HO2.out.rd.2 HO2.out.capz (by omega) (HT.out.1.below HT.out.2 HB3.out) (Nat.lt_of_lt_of_le HT.out.2 HB3.out.size)).mono ?_
      rintro e w3 ⟨hb3, ⟨kk, hkk, rfl⟩ | ⟨s, u, hx, hs, rfl, hu⟩⟩
      · have hB3 := HB3.out.trans (hb3.mono HB3.out.size)
        have hga := World.grownBy_alloc w3 (.cells #[.slice none 0 0, .int .i64 0, .int .i64 0] 25) none
        have HB4 := Lib.hid (hB3.grown hga hB3.size (fun _ h => by cases h))
        have HD4 := Lib.hid ((HO2.out.rd.2.next hb3).next (below_make hga))
        have hrow := Row.new w3 #[.slice none 0 0, .int .i64 0, .int .i64 0] 25
        have HRW := Lib.hid hrow
        clear hb3 hB3 hga hrow
        unfold zeroR
        go_wp2_with fail
        refine (rinflate_all HTC.out A n c l x _ (HR.out.next HB4.out) (by omega)).mono ?_
        rintro e w5 ⟨hb5, ⟨k2, hk2, hk0, rfl⟩ | ⟨s2, u2, hx2, hs2, rfl, hu2⟩⟩
        rotate_left
        · exfalso
          rcases hkk with ⟨h1, _⟩ | ⟨_, j, _, h2⟩
          · exact hx2 h1
          · rw [h2] at hs2; cases hs2
        have hke : kk = (k2 : Int) := by
          rcases hkk with ⟨h1, rfl⟩ | ⟨h1, j, rfl, h2⟩
          · rcases hk2 with ⟨_, rfl⟩ | ⟨h3, _⟩
            · rfl
            · exact absurd h1 h3
          · rcases hk2 with ⟨h3, _⟩ | ⟨_, h4⟩
            · exact absurd h3 h1
            · rw [h2] at h4; injection h4 with h4; rw [h4]
        subst hke
        obtain ⟨j, rfl⟩ : ∃ j, k2 = j + 1 := ⟨k2 - 1, by omega⟩
        have HNU := Lib.hid (num_any (j + 1) w5)
        rw [show errV (j + 1) = .iface 39 (.int .i64 ((j + 1 : Nat) : Int)) from rfl] at HNU
        obtain ⟨z, hz⟩ : ∃ z : Int, ((j + 1 : Nat) : Int) = z := ⟨_, rfl⟩
        rw [hz] at HNU ⊢
        have hz0 : (z == 0) = false := by rw [beq_eq_false_iff_ne]; omega
        have hz1 : ¬ z = 0 := by omega
        have HB5 := Lib.hid (HB4.out.trans (hb5.mono HB4.out.size))
        have HD5 := Lib.hid (HD4.out.next hb5)
        have HE5 := Lib.hid (HR.out.next HB5.out)
        have r5 := HRW.out.below hb5 HRW.out.lt
        have k0 : w5.cell? ⟨w3.heap.size, 0, none⟩ = some (.slice none 0 0) := r5.cell 0
        have k1 : w5.cell? ⟨w3.heap.size, 1, none⟩ = some (.int .i64 0) := r5.cell 1
        have k2 : w5.cell? ⟨w3.heap.size, 2, none⟩ = some (.int .i64 0) := r5.cell 2
        clear hb5 hkk hk2 hz r5 hk0
        go_wp2_with fail
        refine HNU.out.mono ?_
        rintro e wz ⟨rfl, rfl⟩
        go_wp2_with fail
        refine (bytes_same A2 A n c2 c l _ HD5.out HE5.out).mono ?_
        rintro e wz ⟨rfl, rfl⟩
        go_wp2_with fail
        go_ret
        exact ⟨rfl, HB5.out⟩
      · obtain ⟨Au, cu, hvu⟩ := hu.slice
        obtain ⟨q, hq⟩ : ∃ q, s.out.length = q := ⟨_, rfl⟩
        obtain ⟨ud, hud⟩ : ∃ ud, (s.pos + 7) / 8 = ud := ⟨_, rfl⟩
        obtain ⟨st, hst⟩ : ∃ st, s.steps = st := ⟨_, rfl⟩
        rw [hq] at hvu
        subst hvu
        rw [hud, hst]
        have hB3 := HB3.out.trans (hb3.mono HB3.out.size)
        have hga := World.grownBy_alloc w3 (.cells #[.slice Au q cu, .int .i64 (ud : Int), .int .i64 (st : Int)] 25) none
        have HB4 := Lib.hid (hB3.grown hga hB3.size (fun _ h => by cases h))
        have HD4 := Lib.hid ((HO2.out.rd.2.next hb3).next (below_make hga))
        have HU4 := Lib.hid (hu.rd.2.next (below_make hga))
        have hrow := Row.new w3 #[.slice Au q cu, .int .i64 (ud : Int), .int .i64 (st : Int)] 25
        have HRW := Lib.hid hrow
        have HS := Lib.hid (And.intro hx hs)
        have HN := Lib.hid (And.intro hq (And.intro hud hst))
        clear hb3 hB3 hga hrow hu hx hs hq hud hst
        go_wp2_with fail
        refine (rinflate_all HTC.out A n c l x _ (HR.out.next HB4.out) (by omega)).mono ?_
        rintro e w5 ⟨hb5, ⟨k2, hk2, hk0, rfl⟩ | ⟨s2, u2, hx2, hs2, rfl, hu2⟩⟩
        · exfalso
          rcases hk2 with ⟨h1, _⟩ | ⟨_, h2⟩
          · exact HS.out.1 h1
          · rw [HS.out.2] at h2; cases h2
        rw [HS.out.2] at hs2
        injection hs2 with hs2
        injection hs2 with _ hs2
        subst hs2
        obtain ⟨Aw, cw, hvw⟩ := hu2.slice
        rw [HN.out.1] at hvw
        subst hvw
        rw [HN.out.2.1, HN.out.2.2]
        have HNU := Lib.hid (num_any 0 w5)
        rw [show errV 0 = .nilIface from rfl] at HNU
        have HB5 := Lib.hid (HB4.out.trans (hb5.mono HB4.out.size))
        have HD5 := Lib.hid (HD4.out.next hb5)
        have HE5 := Lib.hid (HR.out.next HB5.out)
        have HU5 := Lib.hid (HU4.out.next hb5)
        have HW5 := Lib.hid hu2.rd.2
        have r5 := HRW.out.below hb5 HRW.out.lt
        have k0 : w5.cell? ⟨w3.heap.size, 0, none⟩ = some (.slice Au q cu) := r5.cell 0
        have k1 : w5.cell? ⟨w3.heap.size, 1, none⟩ = some (.int .i64 (ud : Int)) := r5.cell 1
        have k2 : w5.cell? ⟨w3.heap.size, 2, none⟩ = some (.int .i64 (st : Int)) := r5.cell 2
        clear hb5 hu2 r5 hx2
        go_wp2_with fail
        refine HNU.out.mono ?_
        rintro e wz ⟨rfl, rfl⟩
        go_wp2_with fail
        refine (bytes_same A2 A n c2 c l _ HD5.out HE5.out).mono ?_
        rintro e wz ⟨rfl, rfl⟩
        go_wp2_with fail
        refine (bytes_same Au Aw q cu cw s.out _ HU5.out HW5.out).mono ?_
        rintro e wz ⟨rfl, rfl⟩
        go_wp2_with fail
        go_ret
        exact ⟨rfl, HB5.out⟩
  · have hdx : decide (3000 < x) = false := decide_eq_false hx3
    go_enter Tryd.func3, Tryd.ntmps3
    go_wp2_with fail
    refine (alive_true w HT.out.1 HT.out.2).mono ?_
    rintro e w1 ⟨rfl, hb1⟩
    have HB1 := Lib.hid hb1
    have HB2 : RowKit.Hid (Below w.heap.size w (w1.alloc (.cells #[] 5))) := Lib.hid (hb1.alloc hb1.size _)
    have HO0 := Lib.hid (Own.lit w1 #[] [] 0 rfl rfl (by decide))
    clear hb1
    go_wp2_with (at_builtin; refine cat8b (w1.alloc (.cells #[] 5)) rfl (.tmp 23) (.tmp 24) rfl w1.heap.size w.heap.size _ [] l A n c rfl rfl HO0.out (HR.out.below HB2.out) HA.out (by simp) (by simp; omega) ?_)
    intro v2 w2 ho2 hg2 _
    have hb2 : Below w.heap.size w w2 := HB2.out.grown hg2 HB2.out.size (fun k hk => by have := (World.ownsRow.lt HO0.out k hk).1; have := HB1.out.size; omega)
    change Own w2 w1.heap.size v2 l at ho2
    obtain ⟨A2, c2, hv2⟩ := ho2.slice
    rw [HL.out] at hv2
    subst hv2
    have HO2 := Lib.hid ho2
    have HB3 := Lib.hid hb2
    clear ho2 hg2 hb2 HO0 HB2
    go_wp2_with fail
    refine (inflate_all A2 n c2 l x w2 HO2.out.rd.2 HO2.out.capz (by omega) (HT.out.1.below HT.out.2 HB3.out) (Nat.lt_of_lt_of_le HT.out.2 HB3.out.size)).mono ?_
    rintro e w3 ⟨hb3, ⟨kk, hkk, rfl⟩ | ⟨s, u, hx, hs, rfl, hu⟩⟩
    · have hB3 := HB3.out.trans (hb3.mono HB3.out.size)
      have hga := World.grownBy_alloc w3 (.cells #[.slice none 0 0, .int .i64 0, .int .i64 0] 25) none
      have HB4 := Lib.hid (hB3.grown hga hB3.size (fun _ h => by cases h))
      have HD4 := Lib.hid ((HO2.out.rd.2.next hb3).next (below_make hga))
      have hrow := Row.new w3 #[.slice none 0 0, .int .i64 0, .int .i64 0] 25
      have HRW := Lib.hid hrow
      clear hb3 hB3 hga hrow
      unfold zeroR
      go_wp2_with fail
      refine (rinflate_all HTC.out A n c l x _ (HR.out.next HB4.out) (by omega)).mono ?_
      rintro e w5 ⟨hb5, ⟨k2, hk2, hk0, rfl⟩ | ⟨s2, u2, hx2, hs2, rfl, hu2⟩⟩
      rotate_left
      · exfalso
        rcases hkk with ⟨h1, _⟩ | ⟨_, j, _, h2⟩
        · exact hx2 h1
        · rw [h2] at hs2; cases hs2
      have hke : kk = (k2 : Int) := by
        rcases hkk with ⟨h1, rfl⟩ | ⟨h1, j, rfl, h2⟩
        · rcases hk2 with ⟨_, rfl⟩ | ⟨h3, _⟩
          · rfl
          · exact absurd h1 h3
        · rcases hk2 with ⟨h3, _⟩ | ⟨_, h4⟩
          · exact absurd h3 h1
          · rw [h2] at h4; injection h4 with h4; rw [h4]
      subst hke
      obtain ⟨j, rfl⟩ : ∃ j, k2 = j + 1 := ⟨k2 - 1, by omega⟩
      have HNU := Lib.hid (num_any (j + 1) w5)
      rw [show errV (j + 1) = .iface 39 (.int .i64 ((j + 1 : Nat) : Int)) from rfl] at HNU
      obtain ⟨z, hz⟩ : ∃ z : Int, ((j + 1 : Nat) : Int) = z := ⟨_, rfl⟩
      rw [hz] at HNU ⊢
      have hz0 : (z == 0) = false := by rw [beq_eq_false_iff_ne]; omega
      have hz1 : ¬ z = 0 := by omega
      have HB5 := Lib.hid (HB4.out.trans (hb5.mono HB4.out.size))
      have HD5 := Lib.hid (HD4.out.next hb5)
      have HE5 := Lib.hid (HR.out.next HB5.out)
      have r5 := HRW.out.below hb5 HRW.out.lt
      have k0 : w5.cell? ⟨w3.heap.size, 0, none⟩ = some (.slice none 0 0) := r5.cell 0
      have k1 : w5.cell? ⟨w3.heap.size, 1, none⟩ = some (.int .i64 0) := r5.cell 1
      have k2 : w5.cell? ⟨w3.heap.size, 2, none⟩ = some (.int .i64 0) := r5.cell 2
      clear hb5 hkk hk2 hz r5 hk0
      go_wp2_with fail
      refine HNU.out.mono ?_
      rintro e wz ⟨rfl, rfl⟩
      go_wp2_with fail
      refine (bytes_same A2 A n c2 c l _ HD5.out HE5.out).mono ?_
      rintro e wz ⟨rfl, rfl⟩
      go_wp2_with fail
      go_ret
      exact ⟨rfl, HB5.out⟩
    · obtain ⟨Au, cu, hvu⟩ := hu.slice
      obtain ⟨q, hq⟩ : ∃ q, s.out.length = q := ⟨_, rfl⟩
      obtain ⟨ud, hud⟩ : ∃ ud, (s.pos + 7) / 8 = ud := ⟨_, rfl⟩
      obtain ⟨st, hst⟩ : ∃ st, s.steps = st := ⟨_, rfl⟩
      rw [hq] at hvu
      subst hvu
      rw [hud, hst]
      have hB3 := HB3.out.trans (hb3.mono HB3.out.size)
      have hga := World.grownBy_alloc w3 (.cells #[.slice Au q cu, .int .i64 (ud : Int), .int .i64 (st : Int)] 25) none
      have HB4 := Lib.hid (hB3.grown hga hB3.size (fun _ h => by cases h))
      have HD4 := Lib.hid ((HO2.out.rd.2.next hb3).next (below_make hga))
      have HU4 := Lib.hid (hu.rd.2.next (below_make hga))
      have hrow := Row.new w3 #[.slice Au q cu, .int .i64 (ud : Int), .int .i64 (st : Int)] 25
      have HRW := Lib.hid hrow
      have HS := Lib.hid (And.intro hx hs)
      have HN := Lib.hid (And.intro hq (And.intro hud hst))
      clear hb3 hB3 hga hrow hu hx hs hq hud hst
      go_wp2_with fail
      refine (rinflate_all HTC.out A n c l x _ (HR.out.next HB4.out) (by omega)).mono ?_
      rintro e w5 ⟨hb5, ⟨k2, hk2, hk0, rfl⟩ | ⟨s2, u2, hx2, hs2, rfl, hu2⟩⟩
      · exfalso
        rcases hk2 with ⟨h1, _⟩ | ⟨_, h2⟩
        · exact HS.out.1 h1
        · rw [HS.out.2] at h2; cases h2
      rw [HS.out.2] at hs2
      injection hs2 with hs2
      injection hs2 with _ hs2
      subst hs2
      obtain ⟨Aw, cw, hvw⟩ := hu2.slice
      rw [HN.out.1] at hvw
      subst hvw
      rw [HN.out.2.1, HN.out.2.2]
      have HNU := Lib.hid (num_any 0 w5)
      rw [show errV 0 = .nilIface from rfl] at HNU
      have HB5 := Lib.hid (HB4.out.trans (hb5.mono HB4.out.size))
      have HD5 := Lib.hid (HD4.out.next hb5)
      have HE5 := Lib.hid (HR.out.next HB5.out)
      have HU5 := Lib.hid (HU4.out.next hb5)
      have HW5 := Lib.hid hu2.rd.2
      have r5 := HRW.out.below hb5 HRW.out.lt
      have k0 : w5.cell? ⟨w3.heap.size, 0, none⟩ = some (.slice Au q cu) := r5.cell 0
      have k1 : w5.cell? ⟨w3.heap.size, 1, none⟩ = some (.int .i64 (ud : Int)) := r5.cell 1
      have k2 : w5.cell? ⟨w3.heap.size, 2, none⟩ = some (.int .i64 (st : Int)) := r5.cell 2
      clear hb5 hu2 r5 hx2
      go_wp2_with fail
      refine HNU.out.mono ?_
      rintro e wz ⟨rfl, rfl⟩
      go_wp2_with fail
      refine (bytes_same A2 A n c2 c l _ HD5.out HE5.out).mono ?_
      rintro e wz ⟨rfl, rfl⟩
      go_wp2_with fail
      refine (bytes_same Au Aw q cu cw s.out _ HU5.out HW5.out).mono ?_
      rintro e wz ⟨rfl, rfl⟩
      go_wp2_with fail
      go_ret
      exact ⟨rfl, HB5.out⟩
end Go.Proofs.YtjipjclbhdgkoaaDoor
