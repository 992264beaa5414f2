
/- Contracts of length and distance. -/

/- The append laws of bytes, for longer rows. -/

/- Contract of plain: a block of kind 0. -/
import Derived.Test.YtpnnlhegncbfaaaGreatDoorGroupJ
import Derived.Test.YtpnnlhegncbfaaaGreatDoorGroupA
import Derived.Test.YtpnnlhegncbfaaaGreatDoorGroupC
import Derived.Test.YtpnnlhegncbfaaaGreatDoorGroupH
namespace Go.Proofs.YtpnnlhegncbfaaaGreatDoor
set_option maxRecDepth 20000
open Go.RowKit

variable {g r H : Nat} {A : Option Addr} {n c : Nat} {l : List UInt8} {lim : Nat} {v : Value} {s : Sx}
/-- The length that a letter tells. -/
def lengthX (x : Nat) : X Nat := if 285 < x then failX 2 else bindX (numX (lenMore x)) fun y => pureX (lenBase x + y)
def distanceX (x : Nat) : X Nat := if 29 < x then failX 2 else bindX (numX (distMore x)) fun y => pureX (distSum x + y)
theorem len_far : ∀ x : Nat, x < 285 → 265 ≤ x → (4 + (x - 265) % 4) * 2 ^ ((x - 261) / 4) + 3 = lenBase x ∧ lenMore x = (x - 261) / 4 ∧ (4 + (x - 265) % 4) * 2 ^ ((x - 261) / 4) ≤ 300 := by decide +kernel
theorem len_near : ∀ x : Nat, x < 265 → 257 ≤ x → lenBase x = x - 254 ∧ lenMore x = 0 := by decide +kernel
theorem dist_far : ∀ x : Nat, x < 30 → 4 ≤ x → (2 + x % 2) * 2 ^ (x / 2 - 1) + 1 = distSum x ∧ distMore x = x / 2 - 1 ∧ (2 + x % 2) * 2 ^ (x / 2 - 1) ≤ 40000 := by decide +kernel
theorem dist_near : ∀ x : Nat, x < 4 → distSum x = x + 1 ∧ distMore x = 0 := by decide +kernel
theorem num_none (hp : s.pos ≤ (bitsL l).length) : numX 0 (bitsL l) lim s = .ok (0, s) := by unfold numX; rw [if_neg (by omega)]; rfl

theorem wrap3 (Z y : Nat) (k : Int) (h1 : Z ≤ 40000) (h2 : y < 65536) (h3 : 0 ≤ k) (h4 : k ≤ 3) : IntKind.i64.wrap (IntKind.i64.wrap (IntKind.i64.wrap (Z : Int) + k) + (y : Int)) = (Z : Int) + k + (y : Int) := by
  rw [wrap64_in (Z : Int) (by omega) (by omega), wrap64_in ((Z : Int) + k) (by omega) (by omega), wrap64_in ((Z : Int) + k + (y : Int)) (by omega) (by omega)]

set_option maxHeartbeats 1000000 in
theorem mdist_any (x : Nat) (hx : x ≤ 400) (w : World) (hm : MS w g r H A n c l lim v s) :
    Calls Tryz.prog 121 #[.pointer (some ⟨g, 0, none⟩), .int .i64 (x : Int)] w (Out w g r H A n c l lim v (distanceX x (bitsL l) lim s) ints) := by
  have HM := Lib.hid hm
  have hp : s.pos ≤ (bitsL l).length := by rw [hm.bits]; exact hm.le
  clear hm
  unfold distanceX
  by_cases h1 : 29 < x
  · rw [if_pos h1]
    have hd : decide ((x : Int) < 30) = false := decide_eq_false (by omega)
    clear hp h1
    go_enter Tryz.func121, Tryz.ntmps121
    go_wp2_with fail
    refine (must_no w _ rfl).mono ?_
    rintro e w1 ⟨rfl, rfl⟩
    exact ⟨rfl, Out.thrown rfl (Moves.refl w g r v) 2 rfl⟩
  · rw [if_neg h1]
    have hd : decide ((x : Int) < 30) = true := decide_eq_true (by omega)
    by_cases h2 : x < 4
    · have hd2 : decide ((x : Int) < 4) = true := decide_eq_true (by omega)
      have HX : RowKit.Hid (bindX (numX (distMore x)) (fun y => pureX (distSum x + y)) (bitsL l) lim s = .ok (x + 1, s)) := Lib.hid (by
        rw [(dist_near x h2).2, (dist_near x h2).1]; exact ok_bind (num_none hp) rfl)
      rw [HX.out]
      clear hp h1 HX
      go_enter Tryz.func121, Tryz.ntmps121
      go_wp2_with fail
      refine (must_ok w _ rfl).mono ?_
      rintro e w1 ⟨rfl, rfl⟩
      go_wp2_with fail
      go_ret
      exact .inl ⟨x + 1, s, v, rfl, HM.out, Moves.refl w g r v, by unfold ints; simp⟩
    · have hd2 : decide ((x : Int) < 4) = false := decide_eq_false (by omega)
      have HF := Lib.hid (dist_far x (by omega) (by omega))
      have HMD := Lib.hid (HM.out.still (drew_grown w))
      rw [HF.out.2.1]
      obtain ⟨d, hdd⟩ : ∃ d, x / 2 - 1 = d := ⟨_, rfl⟩
      rw [hdd] at HF ⊢
      have hd13 : d ≤ 13 := by omega
      have e1 : (x : Int) / 2 - 1 = (d : Int) := by omega
      obtain ⟨t, ht⟩ : ∃ t, x % 2 = t := ⟨_, rfl⟩
      rw [ht] at HF
      have ht1 : t ≤ 1 := by omega
      have e2 : (x : Int).tmod 2 = (t : Int) := by rw [Int.tmod_eq_emod_of_nonneg (by omega)]; omega
      obtain ⟨Z, hZ⟩ : ∃ Z, (2 + t) * 2 ^ d = Z := ⟨_, rfl⟩
      have q1 : IntKind.i64.wrap (2 + (t : Int)) = 2 + (t : Int) := wrap64_in _ (by omega) (by omega)
      have hZi : (2 + (t : Int)) * 2 ^ d = (Z : Int) := by rw [← hZ]; simp
      rw [hZ] at HF
      have hZ4 := HF.out.2.2
      clear hp h1 h2 hZ ht hdd
      go_enter Tryz.func121, Tryz.ntmps121
      go_wp2_with fail
      refine (must_ok w _ rfl).mono ?_
      rintro e w1 ⟨rfl, rfl⟩
      go_wp2_with fail
      refine wp_region_any (by kernel_rfl) ?_
      change wpAny _ _ _ _ _ _ _ (World.drew _)
      refine wpAny_take (i := 0) (v := ?_) rfl (by kernel_rfl) (by kernel_rfl) (by kernel_rfl) (fun _ _ _ h => h) (Or.inl ⟨by rfl, ?_⟩) ?_
      rotate_left
      · intro w
        go_simp
        try with_reducible rfl
      refine wpAny_take (i := 1) (v := ?_) rfl (by kernel_rfl) (by kernel_rfl) (by kernel_rfl) (fun _ _ _ h => h) (Or.inl ⟨by rfl, ?_⟩) ?_
      rotate_left
      · intro w
        go_simp
        try with_reducible rfl
      refine wpAny_take (i := 2) (v := ?_) rfl (by kernel_rfl) (by kernel_rfl) (by kernel_rfl) (fun _ _ _ h => h) (Or.inl ⟨by rfl, ?_⟩) ?_
      rotate_left
      · intro w
        go_simp
        try with_reducible rfl
      refine wpAny_take (i := 3) (v := ?_) rfl (by kernel_rfl) (by kernel_rfl) (by kernel_rfl) (fun _ _ _ h => h) (Or.inl ⟨by rfl, ?_⟩) ?_
      rotate_left
      · intro w
        go_simp
        try with_reducible rfl
      refine wpAny_take (i := 4) (v := ?_) rfl (by kernel_rfl) (by kernel_rfl) (by kernel_rfl) (fun _ _ _ h => h) (Or.inl ⟨by rfl, ?_⟩) ?_
      rotate_left
      · intro w
        go_simp
        try with_reducible rfl
      refine wpAny_take (i := 5) (v := ?_) rfl (by kernel_rfl) (by kernel_rfl) (by kernel_rfl) (fun _ _ _ h => h) (Or.inl ⟨by rfl, ?_⟩) ?_
      rotate_left
      · intro w
        go_simp
        try with_reducible rfl
      refine wpAny_take (i := 6) (v := ?_) rfl (by kernel_rfl) (by kernel_rfl) (by kernel_rfl) (fun _ _ _ h => h) (Or.inl ⟨by rfl, ?_⟩) ?_
      rotate_left
      · intro w
        go_simp
        try with_reducible rfl
      refine wpAny_take (i := 7) (v := ?_) rfl (by kernel_rfl) (by kernel_rfl) (by kernel_rfl) (fun _ _ _ h => h) (Or.inl ⟨by rfl, ?_⟩) ?_
      rotate_left
      · intro w
        go_simp
        try with_reducible rfl
      refine wpAny_ready (rs := [8]) (by kernel_rfl) (by simp) ?_
      refine AllReady.cons rfl (fun K hK => ?_) AllReady.nil
      go_simp
      go_wp2_with fail
      refine (mnum_any d (by omega) w.drew HMD.out).mono ?_
      rintro e w2 (⟨y, s2, v2, hx2, hm2, hg2, he2⟩ | ⟨k2, b2, v2, hx2, rfl, hb2, hc2, hg2⟩)
      rotate_left
      · exact ⟨rfl, Out.passed (Moves.grown (g := g) (r := r) v (drew_grown w) (.inl rfl)) (bind_err hx2 rfl) hb2 hc2 hg2⟩
      obtain rfl := he2
      have HOK := Lib.hid (And.intro hm2 (And.intro ((Moves.grown (g := g) (r := r) v (drew_grown w) (.inl rfl)).trans hg2) hx2))
      have hy := num_lt hx2
      have hy2 : y < 65536 := Nat.lt_of_lt_of_le hy (Nat.pow_le_pow_right (by decide) (show d ≤ 16 by omega))
      clear hx2 hm2 hg2 hy
      go_simp
      refine hK _ _ ?_
      clear hK K
      refine wpAny_take (i := 9) (v := ?_) rfl (by kernel_rfl) (by kernel_rfl) (by kernel_rfl) (fun _ _ _ h => h) (Or.inl ⟨by rfl, ?_⟩) ?_
      rotate_left
      · intro w
        go_simp
        try with_reducible rfl
      refine wpAny_take (i := 10) (v := ?_) rfl (by kernel_rfl) (by kernel_rfl) (by kernel_rfl) (fun _ _ _ h => h) (Or.inl ⟨by rfl, ?_⟩) ?_
      rotate_left
      · intro w
        go_simp
        try with_reducible rfl
      refine wpAny_done (by kernel_rfl) ?_ _
      go_wp2_with fail
      go_ret
      exact .inl ⟨_, s2, v2, ok_bind HOK.out.2.2 rfl, HOK.out.1, HOK.out.2.1, by unfold ints; rw [← HF.out.1]; exact congrArg (fun z => Ending.returned (Value.int .i64 z)) (by rw [wrap3 Z y 1 hZ4 hy2 (by decide) (by decide)]; simp)⟩

set_option maxHeartbeats 1000000 in
set_option maxRecDepth 20000 in
theorem mlen_any (x : Nat) (hx : x ≤ 400) (hx0 : 257 ≤ x) (w : World) (hm : MS w g r H A n c l lim v s) :
    Calls Tryz.prog 119 #[.pointer (some ⟨g, 0, none⟩), .int .i64 (x : Int)] w (Out w g r H A n c l lim v (lengthX x (bitsL l) lim s) ints) := by
  have HM := Lib.hid hm
  have hp : s.pos ≤ (bitsL l).length := by rw [hm.bits]; exact hm.le
  clear hm
  unfold lengthX
  by_cases h1 : 285 < x
  · rw [if_pos h1]
    have hd : decide ((x : Int) ≤ 285) = false := decide_eq_false (by omega)
    clear hp h1
    go_enter Tryz.func119, Tryz.ntmps119
    go_wp2_with fail
    refine (must_no w _ rfl).mono ?_
    rintro e w1 ⟨rfl, rfl⟩
    exact ⟨rfl, Out.thrown rfl (Moves.refl w g r v) 2 rfl⟩
  · rw [if_neg h1]
    have hd : decide ((x : Int) ≤ 285) = true := decide_eq_true (by omega)
    by_cases h2 : x < 265
    · have hd2 : decide ((x : Int) < 265) = true := decide_eq_true (by omega)
      have HX : RowKit.Hid (bindX (numX (lenMore x)) (fun y => pureX (lenBase x + y)) (bitsL l) lim s = .ok (x - 254, s)) := Lib.hid (by
        rw [(len_near x h2 hx0).2, (len_near x h2 hx0).1]; exact ok_bind (num_none hp) rfl)
      rw [HX.out]
      clear hp h1 HX
      go_enter Tryz.func119, Tryz.ntmps119
      go_wp2_with fail
      refine (must_ok w _ rfl).mono ?_
      rintro e w1 ⟨rfl, rfl⟩
      go_wp2_with fail
      go_ret
      exact .inl ⟨x - 254, s, v, rfl, HM.out, Moves.refl w g r v, by unfold ints; exact congrArg (fun z => Ending.returned (Value.int .i64 z)) (by omega)⟩
    · have hd2 : decide ((x : Int) < 265) = false := decide_eq_false (by omega)
      by_cases h3 : x = 285
      · subst h3
        have HX : RowKit.Hid (bindX (numX (lenMore 285)) (fun y => pureX (lenBase 285 + y)) (bitsL l) lim s = .ok (258, s)) := Lib.hid (by rw [show lenMore 285 = 0 by decide, show lenBase 285 = 258 by decide]; exact ok_bind (num_none hp) rfl)
        rw [HX.out]
        clear hp h1 HX
        go_enter Tryz.func119, Tryz.ntmps119
        go_wp2_with fail
        refine (must_ok w _ rfl).mono ?_
        rintro e w1 ⟨rfl, rfl⟩
        go_wp2_with fail
        go_ret
        exact .inl ⟨258, s, v, rfl, HM.out, Moves.refl w g r v, by unfold ints; rfl⟩
      · have hd3 : ((x : Int) == 285) = false := by rw [beq_eq_false_iff_ne]; omega
        have HF := Lib.hid (len_far x (by omega) (by omega))
        have HMD := Lib.hid (HM.out.still (drew_grown w))
        rw [HF.out.2.1]
        obtain ⟨d, hdd⟩ : ∃ d, (x - 261) / 4 = d := ⟨_, rfl⟩
        rw [hdd] at HF ⊢
        have hd13 : d ≤ 13 := by omega
        have e1 : ((x : Int) - 261).tdiv 4 = (d : Int) := by rw [Int.tdiv_eq_ediv_of_nonneg (by omega)]; omega
        have e1' : ((x : Int) - 261) / 4 = (d : Int) := by omega
        obtain ⟨t, ht⟩ : ∃ t, (x - 265) % 4 = t := ⟨_, rfl⟩
        rw [ht] at HF
        have ht1 : t ≤ 3 := by omega
        have e2 : ((x : Int) - 265).tmod 4 = (t : Int) := by rw [Int.tmod_eq_emod_of_nonneg (by omega)]; omega
        obtain ⟨Z, hZ⟩ : ∃ Z, (4 + t) * 2 ^ d = Z := ⟨_, rfl⟩
        have q1 : IntKind.i64.wrap (4 + (t : Int)) = 4 + (t : Int) := wrap64_in _ (by omega) (by omega)
        have hZi : (4 + (t : Int)) * 2 ^ d = (Z : Int) := by rw [← hZ]; simp
        rw [hZ] at HF
        have hZ4 := HF.out.2.2
        clear hp h1 h2 hZ ht hdd h3
        go_enter Tryz.func119, Tryz.ntmps119
        go_wp2_with fail
        refine (must_ok w _ rfl).mono ?_
        rintro e w1 ⟨rfl, rfl⟩
        go_wp2_with fail
        refine wp_region_any (by kernel_rfl) ?_
        change wpAny _ _ _ _ _ _ _ (World.drew _)
        refine wpAny_take (i := 0) (v := ?_) rfl (by kernel_rfl) (by kernel_rfl) (by kernel_rfl) (fun _ _ _ h => h) (Or.inl ⟨by rfl, ?_⟩) ?_
        rotate_left
        · intro w
          go_simp
          try with_reducible rfl
        refine wpAny_take (i := 1) (v := ?_) rfl (by kernel_rfl) (by kernel_rfl) (by kernel_rfl) (fun _ _ _ h => h) (Or.inl ⟨by rfl, ?_⟩) ?_
        rotate_left
        · intro w
          go_simp
          try with_reducible rfl
        refine wpAny_take (i := 2) (v := ?_) rfl (by kernel_rfl) (by kernel_rfl) (by kernel_rfl) (fun _ _ _ h => h) (Or.inl ⟨by rfl, ?_⟩) ?_
        rotate_left
        · intro w
          go_simp
          try with_reducible rfl
        refine wpAny_take (i := 3) (v := ?_) rfl (by kernel_rfl) (by kernel_rfl) (by kernel_rfl) (fun _ _ _ h => h) (Or.inl ⟨by rfl, ?_⟩) ?_
        rotate_left
        · intro w
          go_simp
          try with_reducible rfl
        refine wpAny_take (i := 4) (v := ?_) rfl (by kernel_rfl) (by kernel_rfl) (by kernel_rfl) (fun _ _ _ h => h) (Or.inl ⟨by rfl, ?_⟩) ?_
        rotate_left
        · intro w
          go_simp
          try with_reducible rfl
        refine wpAny_take (i := 5) (v := ?_) rfl (by kernel_rfl) (by kernel_rfl) (by kernel_rfl) (fun _ _ _ h => h) (Or.inl ⟨by rfl, ?_⟩) ?_
        rotate_left
        · intro w
          go_simp
          try with_reducible rfl
        refine wpAny_take (i := 6) (v := ?_) rfl (by kernel_rfl) (by kernel_rfl) (by kernel_rfl) (fun _ _ _ h => h) (Or.inl ⟨by rfl, ?_⟩) ?_
        rotate_left
        · intro w
          go_simp
          try with_reducible rfl
        refine wpAny_take (i := 7) (v := ?_) rfl (by kernel_rfl) (by kernel_rfl) (by kernel_rfl) (fun _ _ _ h => h) (Or.inl ⟨by rfl, ?_⟩) ?_
        rotate_left
        · intro w
          go_simp
          try with_reducible rfl
        refine wpAny_take (i := 8) (v := ?_) rfl (by kernel_rfl) (by kernel_rfl) (by kernel_rfl) (fun _ _ _ h => h) (Or.inl ⟨by rfl, ?_⟩) ?_
        rotate_left
        · intro w
          go_simp
          try with_reducible rfl
        refine wpAny_ready (rs := [9]) (by kernel_rfl) (by simp) ?_
        refine AllReady.cons rfl (fun K hK => ?_) AllReady.nil
        go_simp
        go_wp2_with fail
        refine (mnum_any d (by omega) w.drew HMD.out).mono ?_
        rintro e w2 (⟨y, s2, v2, hx2, hm2, hg2, he2⟩ | ⟨k2, b2, v2, hx2, rfl, hb2, hc2, hg2⟩)
        rotate_left
        · exact ⟨rfl, Out.passed (Moves.grown (g := g) (r := r) v (drew_grown w) (.inl rfl)) (bind_err hx2 rfl) hb2 hc2 hg2⟩
        obtain rfl := he2
        have HOK := Lib.hid (And.intro hm2 (And.intro ((Moves.grown (g := g) (r := r) v (drew_grown w) (.inl rfl)).trans hg2) hx2))
        have hy := num_lt hx2
        have hy2 : y < 65536 := Nat.lt_of_lt_of_le hy (Nat.pow_le_pow_right (by decide) (show d ≤ 16 by omega))
        clear hx2 hm2 hg2 hy
        go_simp
        refine hK _ _ ?_
        clear hK K
        refine wpAny_take (i := 10) (v := ?_) rfl (by kernel_rfl) (by kernel_rfl) (by kernel_rfl) (fun _ _ _ h => h) (Or.inl ⟨by rfl, ?_⟩) ?_
        rotate_left
        · intro w
          go_simp
          try with_reducible rfl
        refine wpAny_take (i := 11) (v := ?_) rfl (by kernel_rfl) (by kernel_rfl) (by kernel_rfl) (fun _ _ _ h => h) (Or.inl ⟨by rfl, ?_⟩) ?_
        rotate_left
        · intro w
          go_simp
          try with_reducible rfl
        refine wpAny_done (by kernel_rfl) ?_ _
        go_wp2_with fail
        go_ret
        exact .inl ⟨_, s2, v2, ok_bind HOK.out.2.2 rfl, HOK.out.1, HOK.out.2.1, by unfold ints; rw [← HF.out.1]; exact congrArg (fun z => Ending.returned (Value.int .i64 z)) (by rw [wrap64_in ((x : Int) - 265) (by omega) (by omega), e2, q1, hZi, wrap3 Z y 3 (Nat.le_trans hZ4 (by decide)) hy2 (by decide) (by decide)]; simp)⟩
end Go.Proofs.YtpnnlhegncbfaaaGreatDoor
namespace Go.Proofs.YtpnnlhegncbfaaaGreatDoor
set_option maxRecDepth 20000
open Go.RowKit

/-- append(out, b..) of bytes that were just laid in a block of their own. -/
theorem push8b {ops : Array Oper} {rest : List Oper} {o : Oper} {a : Act} {Q : Exit → Act → World → Prop} (w0 : World) (hgd : o.guard = none) (s x : Operand)
    (ho : o.op = .call { callee := .builtin .append, args := #[s, x], argTypes := #[22, 22] })
    (B : Nat) (v : Value) (l bs : List UInt8) (cs : Array Value) (m : Nat) (hs : a.eval s = v) (hx : a.eval x = .slice (some ⟨w0.heap.size, 0, none⟩) m m)
    (hown : Own w0 B v l) (hcs : cs.toList = us bs) (hm : bs.length = m) (hB : B ≤ w0.heap.size) (hl : l.length + m ≤ 4000000)
    (h : ∀ v' w', Own w' B v' (l ++ bs) → w0.grownBy w' v.ownBlock → Fresh w0 v v' → wpList Tryz.prog ops Q rest (a.put o.dst v') w') :
    wpList Tryz.prog ops Q (o :: rest) a (w0.alloc (.cells cs 5)) := by
  obtain ⟨i0, hi, hz0, hz1, hz2⟩ := info_parts info5
  refine wpList_append_own_at _ hgd s x 22 ho B 5 i0 (.int .u8 0) 1 1 Tryz.underlying22 hi hz0 hz1 hz2 rfl (by decide) v l.length (us l) hs (hown.alloc _)
    ⟨w0.heap.size, 0, none⟩ m m (us bs) hx (by rw [us_length, hm]; omega) ?_ (one8 bs) (by unfold maxLen; omega) (by omega) (by simp; omega) ?_
  · rw [← hcs]; exact cells_new w0 cs 5
  · intro v' w' h1 h2 _ h4
    refine h v' w' ?_ ((World.grownBy_alloc w0 _ _).trans h2) (Fresh.of h4 (by simp))
    unfold Own
    rw [List.length_append, hm, us_append]
    exact h1

/-- The same in a region that draws its order. -/
theorem step8b {ops : Array Oper} {o : Oper} {a : Act} {K : Act → World → Prop} {Q : Exit → Act → World → Prop} {E : Prop} (w0 : World) (hgd : o.guard = none) (s x : Operand)
    (ho : o.op = .call { callee := .builtin .append, args := #[s, x], argTypes := #[22, 22] })
    (B : Nat) (v : Value) (l bs : List UInt8) (cs : Array Value) (m : Nat) (hs : a.eval s = v) (hx : a.eval x = .slice (some ⟨w0.heap.size, 0, none⟩) m m)
    (hown : Own w0 B v l) (hcs : cs.toList = us bs) (hm : bs.length = m) (hB : B ≤ w0.heap.size) (hl : l.length + m ≤ 4000000)
    (h : ∀ v' w', Own w' B v' (l ++ bs) → w0.grownBy w' v.ownBlock → K (a.put o.dst v') w') :
    if Region.wanted o (yielded ops a.tmps) = true then Oper.wp Tryz.prog o a (w0.alloc (.cells cs 5)).drew K Q else E := by
  have hw : Region.wanted o (yielded ops a.tmps) = true := by simp [Region.wanted, hgd]
  rw [if_pos hw]
  obtain ⟨i0, hi, hz0, hz1, hz2⟩ := info_parts info5
  obtain ⟨v', w', hr, h2, h3, _, _⟩ := run_append_own_at (P := Tryz.prog) (w0.alloc (.cells cs 5)).drew B 22 o.type 5 i0 (.int .u8 0) 1 1 Tryz.underlying22 hi hz0 hz1 hz2 rfl (by decide) v l.length (us l) (hown.alloc _)
    ⟨w0.heap.size, 0, none⟩ m m (us bs) (by rw [us_length, hm]; omega) (by rw [← hcs]; exact cells_new w0 cs 5) (one8 bs) (by unfold maxLen; omega) (by omega) (by show B ≤ (w0.alloc _).heap.size; simp; omega)
  unfold Oper.wp execOp
  simp only [ho, resolve, invoke, builtin, Sem.run_bind, Sem.run_pure, Result.andThen_ok, List.map_toArray, List.map_cons, List.map_nil, hs, hx, hr]
  refine h v' w' ?_ ⟨h3.os, h3.tape, h3.output, Nat.le_trans (by simp) h3.size, fun k hk hne => (h3.block k (by show k < (w0.alloc _).heap.size; simp; omega) hne).trans (Below.heap_alloc w0 _ k hk)⟩
  unfold Own
  rw [List.length_append, hm, us_append]
  exact h2

/-- The same in a region that draws its order. -/
theorem step8c {ops : Array Oper} {o : Oper} {a : Act} {K : Act → World → Prop} {Q : Exit → Act → World → Prop} {E : Prop} (w0 : World) (hgd : o.guard = none) (s x : Operand)
    (ho : o.op = .call { callee := .builtin .append, args := #[s, x], argTypes := #[22, 22] })
    (B : Nat) (v : Value) (l bs : List UInt8) (cs : Array Value) (m : Nat) (hs : a.eval s = v) (hx : a.eval x = .slice (some ⟨w0.heap.size, 0, none⟩) m m)
    (hown : Own w0 B v l) (hcs : cs.toList = us bs) (hm : bs.length = m) (hB : B ≤ w0.heap.size) (hl : l.length + m ≤ 4000000)
    (h : ∀ v' w', Own w' B v' (l ++ bs) → w0.grownBy w' v.ownBlock → Fresh w0 v v' → K (a.put o.dst v') w') :
    if Region.wanted o (yielded ops a.tmps) = true then Oper.wp Tryz.prog o a (w0.alloc (.cells cs 5)).drew K Q else E := by
  have hw : Region.wanted o (yielded ops a.tmps) = true := by simp [Region.wanted, hgd]
  rw [if_pos hw]
  obtain ⟨i0, hi, hz0, hz1, hz2⟩ := info_parts info5
  obtain ⟨v', w', hr, h2, h3, _, h5⟩ := run_append_own_at (P := Tryz.prog) (w0.alloc (.cells cs 5)).drew B 22 o.type 5 i0 (.int .u8 0) 1 1 Tryz.underlying22 hi hz0 hz1 hz2 rfl (by decide) v l.length (us l) (hown.alloc _)
    ⟨w0.heap.size, 0, none⟩ m m (us bs) (by rw [us_length, hm]; omega) (by rw [← hcs]; exact cells_new w0 cs 5) (one8 bs) (by unfold maxLen; omega) (by omega) (by show B ≤ (w0.alloc _).heap.size; simp; omega)
  unfold Oper.wp execOp
  simp only [ho, resolve, invoke, builtin, Sem.run_bind, Sem.run_pure, Result.andThen_ok, List.map_toArray, List.map_cons, List.map_nil, hs, hx, hr]
  refine h v' w' ?_ ⟨h3.os, h3.tape, h3.output, Nat.le_trans (by simp) h3.size, fun k hk hne => (h3.block k (by show k < (w0.alloc _).heap.size; simp; omega) hne).trans (Below.heap_alloc w0 _ k hk)⟩ (Fresh.of h5 (by show w0.heap.size ≤ (w0.alloc _).heap.size; simp))
  unfold Own
  rw [List.length_append, hm, us_append]
  exact h2

set_option maxRecDepth 20000 in
/-- append(out, xs...) of bytes that lie anywhere, or nowhere. -/
theorem cat8b {ops : Array Oper} {rest : List Oper} {o : Oper} {a : Act} {Q : Exit → Act → World → Prop} (w0 : World) (hgd : o.guard = none) (s x : Operand)
    (ho : o.op = .call { callee := .builtin .append, args := #[s, x], argTypes := #[22, 22] })
    (B C : Nat) (v : Value) (l bs : List UInt8) (A : Option Addr) (m c : Nat) (hs : a.eval s = v) (hx : a.eval x = .slice A m c)
    (hown : Own w0 B v l) (hr : Rd w0 C A m (us bs)) (hA : A = none → c = 0) (hB : B ≤ w0.heap.size) (hl : l.length + m ≤ 4000000)
    (h : ∀ v' w', Own w' B v' (l ++ bs) → w0.grownBy w' v.ownBlock → Fresh w0 v v' → wpList Tryz.prog ops Q rest (a.put o.dst v') w') :
    wpList Tryz.prog ops Q (o :: rest) a w0 := by
  obtain ⟨i0, hi, hz0, hz1, hz2⟩ := info_parts info5
  have hm : bs.length = m := by have := hr.1; rwa [us_length] at this
  rcases A with _ | ad
  · have h0 : m = 0 := by
      rcases Nat.eq_zero_or_pos m with h0 | h0
      · exact h0
      · obtain ⟨g, o, he, _⟩ := hr.2 h0; cases he
    subst h0
    have : bs = [] := List.eq_nil_of_length_eq_zero hm
    subst this
    refine wpList_append_own_none hgd s x 22 ho B 5 i0 1 Tryz.underlying22 hi v l.length (us l) hs hown (by rw [hx, hA rfl]) ?_
    exact h v w0 (by simpa using hown) (World.grownBy.refl _ _) (Fresh.same _ _)
  · refine wpList_append_own_at _ hgd s x 22 ho B 5 i0 (.int .u8 0) 1 1 Tryz.underlying22 hi hz0 hz1 hz2 rfl (by decide) v l.length (us l) hs hown
      ad m c (us bs) hx (by rw [us_length, hm]; omega) ?_ (one8 bs) (by unfold maxLen; omega) (by omega) hB ?_
    · intro j u hu
      have h0 : 0 < m := by
        rcases Nat.eq_zero_or_pos m with h0 | h0
        · subst h0
          have : bs = [] := List.eq_nil_of_length_eq_zero hm
          subst this
          simp [us] at hu
        · exact h0
      obtain ⟨g, o, he, _, hc⟩ := hr.2 h0
      injection he with he
      subst he
      rw [Go.WideShapes.add_plain]
      exact hc j u hu
    · intro v' w' h1 h2 _ h4
      refine h v' w' ?_ h2 (Fresh.of h4 (Nat.le_refl _))
      unfold Own
      rw [List.length_append, hm, us_append]
      exact h1

end Go.Proofs.YtpnnlhegncbfaaaGreatDoor
namespace Go.Proofs.YtpnnlhegncbfaaaGreatDoor
set_option maxRecDepth 20000
open Go.RowKit

variable {g r H : Nat} {A : Option Addr} {n c : Nat} {l : List UInt8} {lim : Nat} {v : Value} {s : Sx}
theorem xor_low (x : Nat) (h : x < 65536) : x ^^^ 65535 = 65535 - x := by
  apply Nat.eq_of_testBit_eq
  intro i
  rw [show 65535 - x = 2 ^ 16 - (x + 1) by omega, Nat.testBit_two_pow_sub_succ (show x < 2 ^ 16 by omega), Nat.testBit_xor, show 65535 = 2 ^ 16 - 1 by decide, Nat.testBit_two_pow_sub_one]
  by_cases hi : i < 16
  · simp [hi]
  · rw [Nat.testBit_lt_two_pow (Nat.lt_of_lt_of_le (show x < 2 ^ 16 by omega) (Nat.pow_le_pow_right (by decide) (by omega)))]
    simp [hi]
theorem i64_xor_natI (a b : Nat) (ha : a < 4611686018427387904) (hb : b < 4611686018427387904) : bits .xor .i64 (a : Int) (b : Int) = ((a ^^^ b : Nat) : Int) := by
  have hx : a ^^^ b < 2 ^ 62 := Nat.xor_lt_two_pow (by omega) (by omega)
  show IntKind.i64.wrap ((BitVec.ofInt 64 (a : Int) ^^^ BitVec.ofInt 64 (b : Int)).toNat : Int) = _
  rw [BitVec.toNat_xor, ofInt_i64I a (by omega), ofInt_i64I b (by omega)]
  simp [IntKind.wrap, IntKind.bits, IntKind.signed]
  omega
theorem xor64 (x : Nat) (h : x < 65536) : bits .xor .i64 (x : Int) 65535 = 65535 - (x : Int) := by
  have h1 := i64_xor_natI x 65535 (by omega) (by omega)
  rw [xor_low x h] at h1
  rw [show (65535 : Int) = ((65535 : Nat) : Int) from rfl, h1]
  omega
theorem room_ok {k : Nat} {L : List UInt8} {u : Unit} {s' : Sx} (h : roomX k L lim s = .ok (u, s')) : s' = s ∧ s.out.length + k ≤ lim := by
  unfold roomX at h
  split at h
  · cases h
  · injection h with h; injection h with _ h; exact ⟨h.symm, by omega⟩
theorem room_err {k j : Nat} {L : List UInt8} (h : roomX k L lim s = .error j) : j = 3 ∧ lim < s.out.length + k := by
  unfold roomX at h
  split at h
  · injection h with h; exact ⟨h.symm, by assumption⟩
  · cases h
theorem Own.capz {w : World} {B : Nat} {A : Option Addr} {n c : Nat} {l : List UInt8} (h : Own w B (.slice A n c) l) (hA : A = none) : c = 0 := by
  rcases h.2 with ⟨hv, _⟩ | ⟨g, cap, cur, hv, _⟩
  · injection hv
  · rw [hA] at hv; injection hv with h1; cases h1

set_option maxHeartbeats 1000000 in
set_option maxRecDepth 20000 in
theorem plain_anyI (w : World) (hm : MS w g r H A n c l lim v s) :
    Calls Tryz.prog 108 #[.pointer (some ⟨g, 0, none⟩)] w (Out w g r H A n c l lim v (storedX (bitsL l) lim s) unit) := by
  have c0 := hm.cell0
  have HM := Lib.hid hm
  obtain ⟨X, HX⟩ : ∃ X, RowKit.Hid (storedX (bitsL l) lim s = X) := ⟨_, Lib.hid rfl⟩
  rw [HX.out]
  clear hm
  go_enter Tryz.func108, Tryz.ntmps108
  go_wp2_with fail
  refine (ralign_any r w HM.out.ra (by simp) HM.out.nn).mono ?_
  rintro e w1 ⟨rfl, hR1, hg1⟩
  rw [show s.pos + gapR s.pos = (s.pos + 7) / 8 * 8 by unfold gapR; omega] at hR1
  have HM1 := Lib.hid (HM.out.reader hR1 hg1 (by omega))
  have HG1 := Lib.hid (Moves.grown (g := g) v hg1 (.inr (.inr (.inl rfl))))
  have HX1 := Lib.hid (bind_go (f := alignX) rfl HX.out)
  obtain ⟨s1, hs1⟩ : ∃ s1 : Sx, (⟨(s.pos + 7) / 8 * 8, s.out, s.steps⟩ : Sx) = s1 := ⟨_, rfl⟩
  have hp1 : s1.pos = (s.pos + 7) / 8 * 8 := by rw [← hs1]
  have HP1 := Lib.hid hp1
  rw [hs1] at HM1 HX1
  generalize gapR s.pos = gap
  clear hR1 hg1 hp1 hs1 HX c0
  go_wp2_with fail
  refine (mnum_any 16 (by omega) w1 HM1.out).mono ?_
  rintro e w2 (⟨a, s2, v2, hx2, hm2, hg2, he2⟩ | ⟨k2, b2, v2, hx2, rfl, hb2, hc2, hg2⟩)
  rotate_left
  · exact ⟨rfl, Out.passed HG1.out (bind_err hx2 HX1.out) hb2 hc2 hg2⟩
  obtain rfl := he2
  have ha : a < 65536 := num_lt hx2
  have HM2 := Lib.hid hm2
  have HG2 := Lib.hid (HG1.out.trans hg2)
  have HX2 := Lib.hid (bind_go hx2 HX1.out)
  have HP2 : RowKit.Hid (s2.pos = (s.pos + 7) / 8 * 8 + 16) := Lib.hid (by rw [(num_ok hx2).1, HP1.out])
  clear hm2 hg2 hx2 HM1 HG1 HX1 HP1
  go_wp2_with fail
  refine (mnum_any 16 (by omega) w2 HM2.out).mono ?_
  rintro e w3 (⟨t, s3, v3, hx3, hm3, hg3, he3⟩ | ⟨k2, b2, v3, hx3, rfl, hb2, hc2, hg3⟩)
  rotate_left
  · exact ⟨rfl, Out.passed HG2.out (bind_err hx3 HX2.out) hb2 hc2 hg3⟩
  obtain rfl := he3
  have ht : t < 65536 := num_lt hx3
  have HM3 := Lib.hid hm3
  have HG3 := Lib.hid (HG2.out.trans hg3)
  have hX3 := bind_go hx3 HX2.out
  have HP3 : RowKit.Hid (s3.pos = (s.pos + 7) / 8 * 8 + 32) := Lib.hid (by rw [(num_ok hx3).1, HP2.out])
  clear hm3 hg3 hx3 HM2 HG2 HX2 HP2
  have ex := xor64 a ha
  by_cases hsum : a + t = 65535
  rotate_left
  · have HX3 : RowKit.Hid (X = .error 2) := Lib.hid (by rw [← hX3, if_pos hsum]; rfl)
    have hd : ((t : Int) == 65535 - (a : Int)) = false := by rw [beq_eq_false_iff_ne]; omega
    clear hX3 hsum
    go_wp2_with fail
    refine (must_no w3 _ rfl).mono ?_
    rintro e w4 ⟨rfl, rfl⟩
    exact ⟨rfl, Out.thrown HX3.out HG3.out 2 rfl⟩
  have hd : ((t : Int) == 65535 - (a : Int)) = true := by rw [beq_iff_eq]; omega
  rw [if_neg (by omega)] at hX3
  have HX3 := Lib.hid hX3
  clear hX3 hsum
  go_wp2_with fail
  refine (must_ok w3 _ rfl).mono ?_
  rintro e w4 ⟨rfl, rfl⟩
  clear ex hd ht
  go_wp2_with fail
  refine (room_any a (by omega) w3 HM3.out).mono ?_
  rintro e w4 (⟨u4, s4, v4, hx4, hm4, hg4, he4⟩ | ⟨k2, b2, v4, hx4, rfl, hb2, hc2, hg4⟩)
  rotate_left
  · refine ⟨rfl, Out.passed HG3.out ?_ hb2 hc2 hg4⟩
    rw [← HX3.out, (room_err hx4).1]
    unfold storeX
    rw [if_pos (room_err hx4).2]
  obtain rfl := he4
  obtain ⟨rfl, hroom⟩ := room_ok hx4
  have c04 := hm4.cell0
  have HM4 := Lib.hid hm4
  have HG4 := Lib.hid (HG3.out.trans hg4)
  have HRM := Lib.hid hroom
  have HSP := Lib.hid hm4.sp
  have hX4 := HX3.out
  unfold storeX at hX4
  rw [if_neg (by omega)] at hX4
  clear hm4 hg4 hx4 HM3 HG3 HX3 hroom
  go_wp2_with fail
  refine (rbytes_any r (a : Int) w4 HM4.out.ra (by simp) HM4.out.nn).mono ?_
  rintro e w5 ⟨u, rfl, hu, hR5, hg5⟩
  have h8 : ¬ s4.pos % 8 ≠ 0 := by rw [HP3.out]; omega
  have hlen := HM4.out.bits
  have hll := HM4.out.len
  have hle := HM4.out.le
  by_cases hend : (8 * n - s4.pos) / 8 < a
  · have he : yE n s4.pos (a : Int) = 10 := y_end (by omega) h8 (by simpa using hend)
    have HX5 : RowKit.Hid (X = .error 10) := Lib.hid (by rw [← hX4, if_pos (by omega)])
    rw [he, show errV 10 = .iface 39 (.int .i64 10) from rfl]
    have HG5 := Lib.hid (HG4.out.trans (Moves.grown (g := g) v4 hg5 (.inr (.inr (.inl rfl)))))
    clear hR5 hg5 hu hX4 he hend h8 hlen hll hle HM4 c04
    go_wp2_with fail
    refine (pass_errno 10 w5).mono ?_
    rintro e w6 ⟨rfl, rfl⟩
    exact ⟨rfl, Out.thrown HX5.out HG5.out 10 rfl⟩
  have he : yE n s4.pos (a : Int) = 0 := y_ok (by omega) h8 (by simpa using hend)
  have hP : yP n s4.pos (a : Int) = s4.pos + 8 * a := by unfold yP; rw [he]; simp
  have hB : yB l s4.pos (a : Int) = bytesB ((bitsL l).drop s4.pos) a := by
    unfold yB
    rw [hll, he, if_pos rfl]
    obtain ⟨q, hq⟩ : ∃ q, s4.pos = 8 * q := ⟨s4.pos / 8, by omega⟩
    rw [hq, bitsL_drop, bytesB_bits a _ (by rw [List.length_drop, hll]; omega)]
    congr 2
    omega
  rw [if_neg (by omega)] at hX4
  have HX5 := Lib.hid hX4
  rw [hB] at hu
  rw [hP] at hR5
  have hbl : (bytesB ((bitsL l).drop s4.pos) a).length = a := bytesB_length _ _
  generalize bytesB ((bitsL l).drop s4.pos) a = bs at hu HX5 hbl
  obtain ⟨Au, cu, rfl⟩ := hu.slice
  rw [hbl] at hu ⊢
  have hcap := hu.capz
  have HRd := Lib.hid hu.rd.2
  have hM5 := HM4.out.reader hR5 hg5 (by omega)
  have HG5 := Lib.hid (HG4.out.trans (Moves.grown (g := g) v4 hg5 (.inr (.inr (.inl rfl)))))
  have c51 := hM5.cell1
  have HM5 := Lib.hid hM5
  have HCP := Lib.hid hcap
  have HBL := Lib.hid hbl
  rw [he, show errV 0 = .nilIface from rfl]
  clear hM5 hcap hbl hu hR5 hg5 hX4 hB hP he hend h8 hlen hll hle HM4 HG4 c04
  go_wp2_with fail
  refine (pass_nil w5).mono ?_
  rintro e w6 ⟨rfl, rfl⟩
  have HBS : RowKit.Hid (g + 1 ≤ w5.heap.size) := Lib.hid HM5.out.lt
  have HOL : RowKit.Hid (s4.out.length + a ≤ 4000000) := Lib.hid (by have := HRM.out; have := HM5.out.lm; omega)
  go_wp2_with (with_reducible refine cat8b w5 rfl _ _ rfl (g + 1) w5.heap.size v4 s4.out bs Au a cu rfl rfl HM5.out.own HRd.out HCP.out HBS.out HOL.out ?_)
  intro v6 w6 ho6 hg6 hf6
  obtain ⟨A6, c6, rfl⟩ := ho6.slice
  obtain ⟨q6, hq6⟩ : ∃ q6, (s4.out ++ bs).length = q6 := ⟨_, rfl⟩
  rw [hq6] at ho6 hf6 ⊢
  clear hq6
  obtain ⟨fl, fd, hrow, hfx⟩ := HM5.out.fx
  have hr6 := hrow.grown hg6 (HM5.out.ne (Nat.le_refl _))
  have c61 : w6.cell? ⟨g, 1, none⟩ = some v4 := hr6.cell 1
  have f61 := hr6.thawed 1
  obtain ⟨hM7, hG7⟩ := HM5.out.text hg6 ho6 hf6 (by rw [List.length_append, HBL.out]; exact HRM.out)
  have HG7 := Lib.hid (HG5.out.trans hG7)
  have c73 := hM7.cell3
  have f73 := hM7.thawed 3
  have HM7 := Lib.hid hM7
  have hsp := hM7.sp
  have hle := hM7.le
  have hnn := hM7.nn
  have hsp4 : s4.steps ≤ s4.pos + 8 * a := hsp
  have hle4 : s4.pos + 8 * a ≤ 8 * n := hle
  clear hM7 hG7 hrow hfx hr6 ho6 hg6 hf6 hsp hle
  go_wp2_with fail
  go_end0
  have hS : s4.steps ≤ s4.pos := HSP.out
  obtain ⟨hM8, hG8⟩ := HM7.out.steps a (by show s4.steps + a ≤ s4.pos + 8 * a; omega) ((s4.steps : Int) + (a : Int)) (by simp)
  exact .inl ⟨(), _, _, HX5.out.symm, hM8, HG7.out.trans hG8, rfl⟩
end Go.Proofs.YtpnnlhegncbfaaaGreatDoor
