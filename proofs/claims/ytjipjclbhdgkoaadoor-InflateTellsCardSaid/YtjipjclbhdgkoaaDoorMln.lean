/- Contracts of length and distance. -/
import Derived.Test.YtjipjclbhdgkoaaDoorGroupF
namespace Go.Proofs.YtjipjclbhdgkoaaDoor
open Go.RowKit

variable {g r H : Nat} {A : Option Addr} {n c : Nat} {l : List UInt8} {lim : Nat} {v : Value} {s : Sx}
/-- The length that a letter tells. -/
def lengthX (x : Nat) : X Nat := if 285 < x then failX 2 else bindX (numX (lenMore x)) fun y => pureX (lenBase x + y)
def distanceX (x : Nat) : X Nat := if 29 < x then failX 2 else bindX (numX (distMore x)) fun y => pureX (distSum x + y)
theorem len_far : ∀ x : Nat, x < 285 → 265 ≤ x → (4 + (x - 265) % 4) * 2 ^ ((x - 261) / 4) + 3 = lenBase x ∧ lenMore x = (x - 261) / 4 ∧ (4 + (x - 265) % 4) * 2 ^ ((x - 261) / 4) ≤ 300 := by decide +kernel
theorem len_near : ∀ x : Nat, x < 265 → 257 ≤ x → lenBase x = x - 254 ∧ lenMore x = 0 := by decide +kernel
theorem dist_far : ∀ x : Nat, x < 30 → 4 ≤ x → (2 + x % 2) * 2 ^ (x / 2 - 1) + 1 = distSum x ∧ distMore x = x / 2 - 1 ∧ (2 + x % 2) * 2 ^ (x / 2 - 1) ≤ 40000 := by decide +kernel
theorem dist_near : ∀ x : Nat, x < 4 → distSum x = x + 1 ∧ distMore x = 0 := by decide +kernel
theorem num_none (hp : s.pos ≤ (bitsL l).length) : numX 0 (bitsL l) lim s = .ok (0, s) := by unfold numX; rw [if_neg (by omega)]; rfl

theorem wrap3 (Z y : Nat) (k : Int) (h1 : Z ≤ 40000) (h2 : y < 65536) (h3 : 0 ≤ k) (h4 : k ≤ 3) : IntKind.i64.wrap (IntKind.i64.wrap (IntKind.i64.wrap (Z : Int) + k) + (y : Int)) = (Z : Int) + k + (y : Int) := by
  rw [wrap64_in (Z : Int) (by omega) (by omega), wrap64_in ((Z : Int) + k) (by omega) (by omega), wrap64_in ((Z : Int) + k + (y : Int)) (by omega) (by omega)]

set_option maxHeartbeats 1000000 in
theorem mdist_any (x : Nat) (hx : x ≤ 400) (w : World) (hm : MS w g r H A n c l lim v s) :
    Calls Tryd.prog 55 #[.pointer (some ⟨g, 0, none⟩), .int .i64 (x : Int)] w (Out w g r H A n c l lim v (distanceX x (bitsL l) lim s) ints) := by
  have HM := Lib.hid hm
  have hp : s.pos ≤ (bitsL l).length := by rw [hm.bits]; exact hm.le
  clear hm
  unfold distanceX
  by_cases h1 : 29 < x
  · rw [if_pos h1]
    have hd : decide ((x : Int) < 30) = false := decide_eq_false (by omega)
    clear hp h1
    go_enter Tryd.func55, Tryd.ntmps55
    go_wp2_with fail
    refine (must_no w _ rfl).mono ?_
    rintro e w1 ⟨rfl, rfl⟩
    exact ⟨rfl, Out.thrown rfl (Moves.refl w g r v) 2 rfl⟩
  · rw [if_neg h1]
    have hd : decide ((x : Int) < 30) = true := decide_eq_true (by omega)
    by_cases h2 : x < 4
    · have hd2 : decide ((x : Int) < 4) = true := decide_eq_true (by omega)
      have HX : RowKit.Hid (bindX (numX (distMore x)) (fun y => pureX (distSum x + y)) (bitsL l) lim s = .ok (x + 1, s)) := Lib.hid (by
        rw [(dist_near x h2).2, (dist_near x h2).1]; exact ok_bind (num_none hp) rfl)
      rw [HX.out]
      clear hp h1 HX
      go_enter Tryd.func55, Tryd.ntmps55
      go_wp2_with fail
      refine (must_ok w _ rfl).mono ?_
      rintro e w1 ⟨rfl, rfl⟩
      go_wp2_with fail
      go_ret
      exact .inl ⟨x + 1, s, v, rfl, HM.out, Moves.refl w g r v, by unfold ints; simp⟩
    · have hd2 : decide ((x : Int) < 4) = false := decide_eq_false (by omega)
      have HF := Lib.hid (dist_far x (by omega) (by omega))
      have HMD := Lib.hid (HM.out.still (drew_grown w))
      rw [HF.out.2.1]
      obtain ⟨d, hdd⟩ : ∃ d, x / 2 - 1 = d := ⟨_, rfl⟩
      rw [hdd] at HF ⊢
      have hd13 : d ≤ 13 := by omega
      have e1 : (x : Int) / 2 - 1 = (d : Int) := by omega
      obtain ⟨t, ht⟩ : ∃ t, x % 2 = t := ⟨_, rfl⟩
      rw [ht] at HF
      have ht1 : t ≤ 1 := by omega
      have e2 : (x : Int).tmod 2 = (t : Int) := by rw [Int.tmod_eq_emod_of_nonneg (by omega)]; omega
      obtain ⟨Z, hZ⟩ : ∃ Z, (2 + t) * 2 ^ d = Z := ⟨_, rfl⟩
      have q1 : IntKind.i64.wrap (2 + (t : Int)) = 2 + (t : Int) := wrap64_in _ (by omega) (by omega)
      have hZi : (2 + (t : Int)) * 2 ^ d = (Z : Int) := by rw [← hZ]; simp
      rw [hZ] at HF
      have hZ4 := HF.out.2.2
      clear hp h1 h2 hZ ht hdd
      go_enter Tryd.func55, Tryd.ntmps55
      go_wp2_with fail
      refine (must_ok w _ rfl).mono ?_
      rintro e w1 ⟨rfl, rfl⟩
      go_wp2_with fail
      refine wp_region_any (by kernel_rfl) ?_
      change wpAny _ _ _ _ _ _ _ (World.drew _)
      refine wpAny_take (i := 0) (v := ?_) rfl (by kernel_rfl) (by kernel_rfl) (by kernel_rfl) (fun _ _ _ h => h) (Or.inl ⟨by rfl, ?_⟩) ?_
      rotate_left
      · intro w
        go_simp
        try with_reducible rfl
      refine wpAny_take (i := 1) (v := ?_) rfl (by kernel_rfl) (by kernel_rfl) (by kernel_rfl) (fun _ _ _ h => h) (Or.inl ⟨by rfl, ?_⟩) ?_
      rotate_left
      · intro w
        go_simp
        try with_reducible rfl
      refine wpAny_take (i := 2) (v := ?_) rfl (by kernel_rfl) (by kernel_rfl) (by kernel_rfl) (fun _ _ _ h => h) (Or.inl ⟨by rfl, ?_⟩) ?_
      rotate_left
      · intro w
        go_simp
        try with_reducible rfl
      refine wpAny_take (i := 3) (v := ?_) rfl (by kernel_rfl) (by kernel_rfl) (by kernel_rfl) (fun _ _ _ h => h) (Or.inl ⟨by rfl, ?_⟩) ?_
      rotate_left
      · intro w
        go_simp
        try with_reducible rfl
      refine wpAny_take (i := 4) (v := ?_) rfl (by kernel_rfl) (by kernel_rfl) (by kernel_rfl) (fun _ _ _ h => h) (Or.inl ⟨by rfl, ?_⟩) ?_
      rotate_left
      · intro w
        go_simp
        try with_reducible rfl
      refine wpAny_take (i := 5) (v := ?_) rfl (by kernel_rfl) (by kernel_rfl) (by kernel_rfl) (fun _ _ _ h => h) (Or.inl ⟨by rfl, ?_⟩) ?_
      rotate_left
      · intro w
        go_simp
        try with_reducible rfl
      refine wpAny_take (i := 6) (v := ?_) rfl (by kernel_rfl) (by kernel_rfl) (by kernel_rfl) (fun _ _ _ h => h) (Or.inl ⟨by rfl, ?_⟩) ?_
      rotate_left
      · intro w
        go_simp
        try with_reducible rfl
      refine wpAny_take (i := 7) (v := ?_) rfl (by kernel_rfl) (by kernel_rfl) (by kernel_rfl) (fun _ _ _ h => h) (Or.inl ⟨by rfl, ?_⟩) ?_
      rotate_left
      · intro w
        go_simp
        try with_reducible rfl
      refine wpAny_ready (rs := [8]) (by kernel_rfl) (by simp) ?_
      refine AllReady.cons rfl (fun K hK => ?_) AllReady.nil
      go_simp
      go_wp2_with fail
      refine (mnum_any d (by omega) w.drew HMD.out).mono ?_
      rintro e w2 (⟨y, s2, v2, hx2, hm2, hg2, he2⟩ | ⟨k2, b2, v2, hx2, rfl, hb2, hc2, hg2⟩)
      rotate_left
      · exact ⟨rfl, Out.passed (Moves.grown (g := g) (r := r) v (drew_grown w) (.inl rfl)) (bind_err hx2 rfl) hb2 hc2 hg2⟩
      obtain rfl := he2
      have HOK := Lib.hid (And.intro hm2 (And.intro ((Moves.grown (g := g) (r := r) v (drew_grown w) (.inl rfl)).trans hg2) hx2))
      have hy := num_lt hx2
      have hy2 : y < 65536 := Nat.lt_of_lt_of_le hy (Nat.pow_le_pow_right (by decide) (show d ≤ 16 by omega))
      clear hx2 hm2 hg2 hy
      go_simp
      refine hK _ _ ?_
      clear hK K
      refine wpAny_take (i := 9) (v := ?_) rfl (by kernel_rfl) (by kernel_rfl) (by kernel_rfl) (fun _ _ _ h => h) (Or.inl ⟨by rfl, ?_⟩) ?_
      rotate_left
      · intro w
        go_simp
        try with_reducible rfl
      refine wpAny_take (i := 10) (v := ?_) rfl (by kernel_rfl) (by kernel_rfl) (by kernel_rfl) (fun _ _ _ h => h) (Or.inl ⟨by rfl, ?_⟩) ?_
      rotate_left
      · intro w
        go_simp
        try with_reducible rfl
      refine wpAny_done (by kernel_rfl) ?_ _
      go_wp2_with fail
      go_ret
      exact .inl ⟨_, s2, v2, ok_bind HOK.out.2.2 rfl, HOK.out.1, HOK.out.2.1, by unfold ints; rw [← HF.out.1]; exact congrArg (fun z => Ending.returned (Value.int .i64 z)) (by rw [wrap3 Z y 1 hZ4 hy2 (by decide) (by decide)]; simp)⟩

set_option maxHeartbeats 1000000 in
set_option maxRecDepth 20000 in
theorem mlen_any (x : Nat) (hx : x ≤ 400) (hx0 : 257 ≤ x) (w : World) (hm : MS w g r H A n c l lim v s) :
    Calls Tryd.prog 53 #[.pointer (some ⟨g, 0, none⟩), .int .i64 (x : Int)] w (Out w g r H A n c l lim v (lengthX x (bitsL l) lim s) ints) := by
  have HM := Lib.hid hm
  have hp : s.pos ≤ (bitsL l).length := by rw [hm.bits]; exact hm.le
  clear hm
  unfold lengthX
  by_cases h1 : 285 < x
  · rw [if_pos h1]
    have hd : decide ((x : Int) ≤ 285) = false := decide_eq_false (by omega)
    clear hp h1
    go_enter Tryd.func53, Tryd.ntmps53
    go_wp2_with fail
    refine (must_no w _ rfl).mono ?_
    rintro e w1 ⟨rfl, rfl⟩
    exact ⟨rfl, Out.thrown rfl (Moves.refl w g r v) 2 rfl⟩
  · rw [if_neg h1]
    have hd : decide ((x : Int) ≤ 285) = true := decide_eq_true (by omega)
    by_cases h2 : x < 265
    · have hd2 : decide ((x : Int) < 265) = true := decide_eq_true (by omega)
      have HX : RowKit.Hid (bindX (numX (lenMore x)) (fun y => pureX (lenBase x + y)) (bitsL l) lim s = .ok (x - 254, s)) := Lib.hid (by
        rw [(len_near x h2 hx0).2, (len_near x h2 hx0).1]; exact ok_bind (num_none hp) rfl)
      rw [HX.out]
      clear hp h1 HX
      go_enter Tryd.func53, Tryd.ntmps53
      go_wp2_with fail
      refine (must_ok w _ rfl).mono ?_
      rintro e w1 ⟨rfl, rfl⟩
      go_wp2_with fail
      go_ret
      exact .inl ⟨x - 254, s, v, rfl, HM.out, Moves.refl w g r v, by unfold ints; exact congrArg (fun z => Ending.returned (Value.int .i64 z)) (by omega)⟩
    · have hd2 : decide ((x : Int) < 265) = false := decide_eq_false (by omega)
      by_cases h3 : x = 285
      · subst h3
        have HX : RowKit.Hid (bindX (numX (lenMore 285)) (fun y => pureX (lenBase 285 + y)) (bitsL l) lim s = .ok (258, s)) := Lib.hid (by rw [show lenMore 285 = 0 by decide, show lenBase 285 = 258 by decide]; exact ok_bind (num_none hp) rfl)
        rw [HX.out]
        clear hp h1 HX
        go_enter Tryd.func53, Tryd.ntmps53
        go_wp2_with fail
        refine (must_ok w _ rfl).mono ?_
        rintro e w1 ⟨rfl, rfl⟩
        go_wp2_with fail
        go_ret
        exact .inl ⟨258, s, v, rfl, HM.out, Moves.refl w g r v, by unfold ints; rfl⟩
      · have hd3 : ((x : Int) == 285) = false := by rw [beq_eq_false_iff_ne]; omega
        have HF := Lib.hid (len_far x (by omega) (by omega))
        have HMD := Lib.hid (HM.out.still (drew_grown w))
        rw [HF.out.2.1]
        obtain ⟨d, hdd⟩ : ∃ d, (x - 261) / 4 = d := ⟨_, rfl⟩
        rw [hdd] at HF ⊢
        have hd13 : d ≤ 13 := by omega
        have e1 : ((x : Int) - 261).tdiv 4 = (d : Int) := by rw [Int.tdiv_eq_ediv_of_nonneg (by omega)]; omega
        have e1' : ((x : Int) - 261) / 4 = (d : Int) := by omega
        obtain ⟨t, ht⟩ : ∃ t, (x - 265) % 4 = t := ⟨_, rfl⟩
        rw [ht] at HF
        have ht1 : t ≤ 3 := by omega
        have e2 : ((x : Int) - 265).tmod 4 = (t : Int) := by rw [Int.tmod_eq_emod_of_nonneg (by omega)]; omega
        obtain ⟨Z, hZ⟩ : ∃ Z, (4 + t) * 2 ^ d = Z := ⟨_, rfl⟩
        have q1 : IntKind.i64.wrap (4 + (t : Int)) = 4 + (t : Int) := wrap64_in _ (by omega) (by omega)
        have hZi : (4 + (t : Int)) * 2 ^ d = (Z : Int) := by rw [← hZ]; simp
        rw [hZ] at HF
        have hZ4 := HF.out.2.2
        clear hp h1 h2 hZ ht hdd h3
        go_enter Tryd.func53, Tryd.ntmps53
        go_wp2_with fail
        refine (must_ok w _ rfl).mono ?_
        rintro e w1 ⟨rfl, rfl⟩
        go_wp2_with fail
        refine wp_region_any (by kernel_rfl) ?_
        change wpAny _ _ _ _ _ _ _ (World.drew _)
        refine wpAny_take (i := 0) (v := ?_) rfl (by kernel_rfl) (by kernel_rfl) (by kernel_rfl) (fun _ _ _ h => h) (Or.inl ⟨by rfl, ?_⟩) ?_
        rotate_left
        · intro w
          go_simp
          try with_reducible rfl
        refine wpAny_take (i := 1) (v := ?_) rfl (by kernel_rfl) (by kernel_rfl) (by kernel_rfl) (fun _ _ _ h => h) (Or.inl ⟨by rfl, ?_⟩) ?_
        rotate_left
        · intro w
          go_simp
          try with_reducible rfl
        refine wpAny_take (i := 2) (v := ?_) rfl (by kernel_rfl) (by kernel_rfl) (by kernel_rfl) (fun _ _ _ h => h) (Or.inl ⟨by rfl, ?_⟩) ?_
        rotate_left
        · intro w
          go_simp
          try with_reducible rfl
        refine wpAny_take (i := 3) (v := ?_) rfl (by kernel_rfl) (by kernel_rfl) (by kernel_rfl) (fun _ _ _ h => h) (Or.inl ⟨by rfl, ?_⟩) ?_
        rotate_left
        · intro w
          go_simp
          try with_reducible rfl
        refine wpAny_take (i := 4) (v := ?_) rfl (by kernel_rfl) (by kernel_rfl) (by kernel_rfl) (fun _ _ _ h => h) (Or.inl ⟨by rfl, ?_⟩) ?_
        rotate_left
        · intro w
          go_simp
          try with_reducible rfl
        refine wpAny_take (i := 5) (v := ?_) rfl (by kernel_rfl) (by kernel_rfl) (by kernel_rfl) (fun _ _ _ h => h) (Or.inl ⟨by rfl, ?_⟩) ?_
        rotate_left
        · intro w
          go_simp
          try with_reducible rfl
        refine wpAny_take (i := 6) (v := ?_) rfl (by kernel_rfl) (by kernel_rfl) (by kernel_rfl) (fun _ _ _ h => h) (Or.inl ⟨by rfl, ?_⟩) ?_
        rotate_left
        · intro w
          go_simp
          try with_reducible rfl
        refine wpAny_take (i := 7) (v := ?_) rfl (by kernel_rfl) (by kernel_rfl) (by kernel_rfl) (fun _ _ _ h => h) (Or.inl ⟨by rfl, ?_⟩) ?_
        rotate_left
        · intro w
          go_simp
          try with_reducible rfl
        refine wpAny_take (i := 8) (v := ?_) rfl (by kernel_rfl) (by kernel_rfl) (by kernel_rfl) (fun _ _ _ h => h) (Or.inl ⟨by rfl, ?_⟩) ?_
        rotate_left
        · intro w
          go_simp
          try with_reducible rfl
        refine wpAny_ready (rs := [9]) (by kernel_rfl) (by simp) ?_
        refine AllReady.cons rfl (fun K hK => ?_) AllReady.nil
        go_simp
        go_wp2_with fail
        refine (mnum_any d (by omega) w.drew HMD.out).mono ?_
        rintro e w2 (⟨y, s2, v2, hx2, hm2, hg2, he2⟩ | ⟨k2, b2, v2, hx2, rfl, hb2, hc2, hg2⟩)
        rotate_left
        · exact ⟨rfl, Out.passed (Moves.grown (g := g) (r := r) v (drew_grown w) (.inl rfl)) (bind_err hx2 rfl) hb2 hc2 hg2⟩
        obtain rfl := he2
        have HOK := Lib.hid (And.intro hm2 (And.intro ((Moves.grown (g := g) (r := r) v (drew_grown w) (.inl rfl)).trans hg2) hx2))
        have hy := num_lt hx2
        have hy2 : y < 65536 := Nat.lt_of_lt_of_le hy (Nat.pow_le_pow_right (by decide) (show d ≤ 16 by omega))
        clear hx2 hm2 hg2 hy
        go_simp
        refine hK _ _ ?_
        clear hK K
        refine wpAny_take (i := 10) (v := ?_) rfl (by kernel_rfl) (by kernel_rfl) (by kernel_rfl) (fun _ _ _ h => h) (Or.inl ⟨by rfl, ?_⟩) ?_
        rotate_left
        · intro w
          go_simp
          try with_reducible rfl
        refine wpAny_take (i := 11) (v := ?_) rfl (by kernel_rfl) (by kernel_rfl) (by kernel_rfl) (fun _ _ _ h => h) (Or.inl ⟨by rfl, ?_⟩) ?_
        rotate_left
        · intro w
          go_simp
          try with_reducible rfl
        refine wpAny_done (by kernel_rfl) ?_ _
        go_wp2_with fail
        go_ret
        exact .inl ⟨_, s2, v2, ok_bind HOK.out.2.2 rfl, HOK.out.1, HOK.out.2.1, by unfold ints; rw [← HF.out.1]; exact congrArg (fun z => Ending.returned (Value.int .i64 z)) (by rw [wrap64_in ((x : Int) - 265) (by omega) (by omega), e2, q1, hZi, wrap3 Z y 3 (Nat.le_trans hZ4 (by decide)) hy2 (by decide) (by decide)]; simp)⟩
end Go.Proofs.YtjipjclbhdgkoaaDoor
