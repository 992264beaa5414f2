
/- The append laws of bytes, for longer rows. -/

/- Contract of plain: a block of kind 0. -/

/- Contract of repeat: bytes that were put out before. -/
import Derived.Test.YtpnnlhegncbfaaaDoorGroupA
import Derived.Test.YtpnnlhegncbfaaaDoorGroupT
import Derived.Test.YtpnnlhegncbfaaaDoorGroupK
import Derived.Test.YtpnnlhegncbfaaaDoorGroupO
import Derived.Deep.RegionHeld3
namespace Go.Proofs.YtpnnlhegncbfaaaDoor
set_option maxRecDepth 20000
open Go.RowKit

/-- append(out, b..) of bytes that were just laid in a block of their own. -/
theorem push8b {ops : Array Oper} {rest : List Oper} {o : Oper} {a : Act} {Q : Exit → Act → World → Prop} (w0 : World) (hgd : o.guard = none) (s x : Operand)
    (ho : o.op = .call { callee := .builtin .append, args := #[s, x], argTypes := #[22, 22] })
    (B : Nat) (v : Value) (l bs : List UInt8) (cs : Array Value) (m : Nat) (hs : a.eval s = v) (hx : a.eval x = .slice (some ⟨w0.heap.size, 0, none⟩) m m)
    (hown : Own w0 B v l) (hcs : cs.toList = us bs) (hm : bs.length = m) (hB : B ≤ w0.heap.size) (hl : l.length + m ≤ 4000000)
    (h : ∀ v' w', Own w' B v' (l ++ bs) → w0.grownBy w' v.ownBlock → Fresh w0 v v' → wpList Tryd.prog ops Q rest (a.put o.dst v') w') :
    wpList Tryd.prog ops Q (o :: rest) a (w0.alloc (.cells cs 5)) := by
  obtain ⟨i0, hi, hz0, hz1, hz2⟩ := info_parts info5
  refine wpList_append_own_at _ hgd s x 22 ho B 5 i0 (.int .u8 0) 1 1 Tryd.underlying22 hi hz0 hz1 hz2 rfl (by decide) v l.length (us l) hs (hown.alloc _)
    ⟨w0.heap.size, 0, none⟩ m m (us bs) hx (by rw [us_length, hm]; omega) ?_ (one8 bs) (by unfold maxLen; omega) (by omega) (by simp; omega) ?_
  · rw [← hcs]; exact cells_new w0 cs 5
  · intro v' w' h1 h2 _ h4
    refine h v' w' ?_ ((World.grownBy_alloc w0 _ _).trans h2) (Fresh.of h4 (by simp))
    unfold Own
    rw [List.length_append, hm, us_append]
    exact h1

/-- The same in a region that draws its order. -/
theorem step8b {ops : Array Oper} {o : Oper} {a : Act} {K : Act → World → Prop} {Q : Exit → Act → World → Prop} {E : Prop} (w0 : World) (hgd : o.guard = none) (s x : Operand)
    (ho : o.op = .call { callee := .builtin .append, args := #[s, x], argTypes := #[22, 22] })
    (B : Nat) (v : Value) (l bs : List UInt8) (cs : Array Value) (m : Nat) (hs : a.eval s = v) (hx : a.eval x = .slice (some ⟨w0.heap.size, 0, none⟩) m m)
    (hown : Own w0 B v l) (hcs : cs.toList = us bs) (hm : bs.length = m) (hB : B ≤ w0.heap.size) (hl : l.length + m ≤ 4000000)
    (h : ∀ v' w', Own w' B v' (l ++ bs) → w0.grownBy w' v.ownBlock → K (a.put o.dst v') w') :
    if Region.wanted o (yielded ops a.tmps) = true then Oper.wp Tryd.prog o a (w0.alloc (.cells cs 5)).drew K Q else E := by
  have hw : Region.wanted o (yielded ops a.tmps) = true := by simp [Region.wanted, hgd]
  rw [if_pos hw]
  obtain ⟨i0, hi, hz0, hz1, hz2⟩ := info_parts info5
  obtain ⟨v', w', hr, h2, h3, _, _⟩ := run_append_own_at (P := Tryd.prog) (w0.alloc (.cells cs 5)).drew B 22 o.type 5 i0 (.int .u8 0) 1 1 Tryd.underlying22 hi hz0 hz1 hz2 rfl (by decide) v l.length (us l) (hown.alloc _)
    ⟨w0.heap.size, 0, none⟩ m m (us bs) (by rw [us_length, hm]; omega) (by rw [← hcs]; exact cells_new w0 cs 5) (one8 bs) (by unfold maxLen; omega) (by omega) (by show B ≤ (w0.alloc _).heap.size; simp; omega)
  unfold Oper.wp execOp
  simp only [ho, resolve, invoke, builtin, Sem.run_bind, Sem.run_pure, Result.andThen_ok, List.map_toArray, List.map_cons, List.map_nil, hs, hx, hr]
  refine h v' w' ?_ ⟨h3.os, h3.tape, h3.output, Nat.le_trans (by simp) h3.size, fun k hk hne => (h3.block k (by show k < (w0.alloc _).heap.size; simp; omega) hne).trans (Below.heap_alloc w0 _ k hk)⟩
  unfold Own
  rw [List.length_append, hm, us_append]
  exact h2

/-- The same in a region that draws its order. -/
theorem step8c {ops : Array Oper} {o : Oper} {a : Act} {K : Act → World → Prop} {Q : Exit → Act → World → Prop} {E : Prop} (w0 : World) (hgd : o.guard = none) (s x : Operand)
    (ho : o.op = .call { callee := .builtin .append, args := #[s, x], argTypes := #[22, 22] })
    (B : Nat) (v : Value) (l bs : List UInt8) (cs : Array Value) (m : Nat) (hs : a.eval s = v) (hx : a.eval x = .slice (some ⟨w0.heap.size, 0, none⟩) m m)
    (hown : Own w0 B v l) (hcs : cs.toList = us bs) (hm : bs.length = m) (hB : B ≤ w0.heap.size) (hl : l.length + m ≤ 4000000)
    (h : ∀ v' w', Own w' B v' (l ++ bs) → w0.grownBy w' v.ownBlock → Fresh w0 v v' → K (a.put o.dst v') w') :
    if Region.wanted o (yielded ops a.tmps) = true then Oper.wp Tryd.prog o a (w0.alloc (.cells cs 5)).drew K Q else E := by
  have hw : Region.wanted o (yielded ops a.tmps) = true := by simp [Region.wanted, hgd]
  rw [if_pos hw]
  obtain ⟨i0, hi, hz0, hz1, hz2⟩ := info_parts info5
  obtain ⟨v', w', hr, h2, h3, _, h5⟩ := run_append_own_at (P := Tryd.prog) (w0.alloc (.cells cs 5)).drew B 22 o.type 5 i0 (.int .u8 0) 1 1 Tryd.underlying22 hi hz0 hz1 hz2 rfl (by decide) v l.length (us l) (hown.alloc _)
    ⟨w0.heap.size, 0, none⟩ m m (us bs) (by rw [us_length, hm]; omega) (by rw [← hcs]; exact cells_new w0 cs 5) (one8 bs) (by unfold maxLen; omega) (by omega) (by show B ≤ (w0.alloc _).heap.size; simp; omega)
  unfold Oper.wp execOp
  simp only [ho, resolve, invoke, builtin, Sem.run_bind, Sem.run_pure, Result.andThen_ok, List.map_toArray, List.map_cons, List.map_nil, hs, hx, hr]
  refine h v' w' ?_ ⟨h3.os, h3.tape, h3.output, Nat.le_trans (by simp) h3.size, fun k hk hne => (h3.block k (by show k < (w0.alloc _).heap.size; simp; omega) hne).trans (Below.heap_alloc w0 _ k hk)⟩ (Fresh.of h5 (by show w0.heap.size ≤ (w0.alloc _).heap.size; simp))
  unfold Own
  rw [List.length_append, hm, us_append]
  exact h2

set_option maxRecDepth 20000 in
/-- append(out, xs...) of bytes that lie anywhere, or nowhere. -/
theorem cat8b {ops : Array Oper} {rest : List Oper} {o : Oper} {a : Act} {Q : Exit → Act → World → Prop} (w0 : World) (hgd : o.guard = none) (s x : Operand)
    (ho : o.op = .call { callee := .builtin .append, args := #[s, x], argTypes := #[22, 22] })
    (B C : Nat) (v : Value) (l bs : List UInt8) (A : Option Addr) (m c : Nat) (hs : a.eval s = v) (hx : a.eval x = .slice A m c)
    (hown : Own w0 B v l) (hr : Rd w0 C A m (us bs)) (hA : A = none → c = 0) (hB : B ≤ w0.heap.size) (hl : l.length + m ≤ 4000000)
    (h : ∀ v' w', Own w' B v' (l ++ bs) → w0.grownBy w' v.ownBlock → Fresh w0 v v' → wpList Tryd.prog ops Q rest (a.put o.dst v') w') :
    wpList Tryd.prog ops Q (o :: rest) a w0 := by
  obtain ⟨i0, hi, hz0, hz1, hz2⟩ := info_parts info5
  have hm : bs.length = m := by have := hr.1; rwa [us_length] at this
  rcases A with _ | ad
  · have h0 : m = 0 := by
      rcases Nat.eq_zero_or_pos m with h0 | h0
      · exact h0
      · obtain ⟨g, o, he, _⟩ := hr.2 h0; cases he
    subst h0
    have : bs = [] := List.eq_nil_of_length_eq_zero hm
    subst this
    refine wpList_append_own_none hgd s x 22 ho B 5 i0 1 Tryd.underlying22 hi v l.length (us l) hs hown (by rw [hx, hA rfl]) ?_
    exact h v w0 (by simpa using hown) (World.grownBy.refl _ _) (Fresh.same _ _)
  · refine wpList_append_own_at _ hgd s x 22 ho B 5 i0 (.int .u8 0) 1 1 Tryd.underlying22 hi hz0 hz1 hz2 rfl (by decide) v l.length (us l) hs hown
      ad m c (us bs) hx (by rw [us_length, hm]; omega) ?_ (one8 bs) (by unfold maxLen; omega) (by omega) hB ?_
    · intro j u hu
      have h0 : 0 < m := by
        rcases Nat.eq_zero_or_pos m with h0 | h0
        · subst h0
          have : bs = [] := List.eq_nil_of_length_eq_zero hm
          subst this
          simp [us] at hu
        · exact h0
      obtain ⟨g, o, he, _, hc⟩ := hr.2 h0
      injection he with he
      subst he
      rw [Go.WideShapes.add_plain]
      exact hc j u hu
    · intro v' w' h1 h2 _ h4
      refine h v' w' ?_ h2 (Fresh.of h4 (Nat.le_refl _))
      unfold Own
      rw [List.length_append, hm, us_append]
      exact h1

end Go.Proofs.YtpnnlhegncbfaaaDoor
namespace Go.Proofs.YtpnnlhegncbfaaaDoor
set_option maxRecDepth 20000
open Go.RowKit

variable {g r H : Nat} {A : Option Addr} {n c : Nat} {l : List UInt8} {lim : Nat} {v : Value} {s : Sx}
theorem xor_low (x : Nat) (h : x < 65536) : x ^^^ 65535 = 65535 - x := by
  apply Nat.eq_of_testBit_eq
  intro i
  rw [show 65535 - x = 2 ^ 16 - (x + 1) by omega, Nat.testBit_two_pow_sub_succ (show x < 2 ^ 16 by omega), Nat.testBit_xor, show 65535 = 2 ^ 16 - 1 by decide, Nat.testBit_two_pow_sub_one]
  by_cases hi : i < 16
  · simp [hi]
  · rw [Nat.testBit_lt_two_pow (Nat.lt_of_lt_of_le (show x < 2 ^ 16 by omega) (Nat.pow_le_pow_right (by decide) (by omega)))]
    simp [hi]
theorem i64_xor_natI (a b : Nat) (ha : a < 4611686018427387904) (hb : b < 4611686018427387904) : bits .xor .i64 (a : Int) (b : Int) = ((a ^^^ b : Nat) : Int) := by
  have hx : a ^^^ b < 2 ^ 62 := Nat.xor_lt_two_pow (by omega) (by omega)
  show IntKind.i64.wrap ((BitVec.ofInt 64 (a : Int) ^^^ BitVec.ofInt 64 (b : Int)).toNat : Int) = _
  rw [BitVec.toNat_xor, ofInt_i64I a (by omega), ofInt_i64I b (by omega)]
  simp [IntKind.wrap, IntKind.bits, IntKind.signed]
  omega
theorem xor64 (x : Nat) (h : x < 65536) : bits .xor .i64 (x : Int) 65535 = 65535 - (x : Int) := by
  have h1 := i64_xor_natI x 65535 (by omega) (by omega)
  rw [xor_low x h] at h1
  rw [show (65535 : Int) = ((65535 : Nat) : Int) from rfl, h1]
  omega
theorem room_ok {k : Nat} {L : List UInt8} {u : Unit} {s' : Sx} (h : roomX k L lim s = .ok (u, s')) : s' = s ∧ s.out.length + k ≤ lim := by
  unfold roomX at h
  split at h
  · cases h
  · injection h with h; injection h with _ h; exact ⟨h.symm, by omega⟩
theorem room_err {k j : Nat} {L : List UInt8} (h : roomX k L lim s = .error j) : j = 3 ∧ lim < s.out.length + k := by
  unfold roomX at h
  split at h
  · injection h with h; exact ⟨h.symm, by assumption⟩
  · cases h
theorem Own.capz {w : World} {B : Nat} {A : Option Addr} {n c : Nat} {l : List UInt8} (h : Own w B (.slice A n c) l) (hA : A = none) : c = 0 := by
  rcases h.2 with ⟨hv, _⟩ | ⟨g, cap, cur, hv, _⟩
  · injection hv
  · rw [hA] at hv; injection hv with h1; cases h1

set_option maxHeartbeats 1000000 in
set_option maxRecDepth 20000 in
theorem plain_anyI (w : World) (hm : MS w g r H A n c l lim v s) :
    Calls Tryd.prog 56 #[.pointer (some ⟨g, 0, none⟩)] w (Out w g r H A n c l lim v (storedX (bitsL l) lim s) unit) := by
  have c0 := hm.cell0
  have HM := Lib.hid hm
  obtain ⟨X, HX⟩ : ∃ X, RowKit.Hid (storedX (bitsL l) lim s = X) := ⟨_, Lib.hid rfl⟩
  rw [HX.out]
  clear hm
  go_enter Tryd.func56, Tryd.ntmps56
  go_wp2_with fail
  refine (ralign_any r w HM.out.ra (by simp) HM.out.nn).mono ?_
  rintro e w1 ⟨rfl, hR1, hg1⟩
  rw [show s.pos + gapR s.pos = (s.pos + 7) / 8 * 8 by unfold gapR; omega] at hR1
  have HM1 := Lib.hid (HM.out.reader hR1 hg1 (by omega))
  have HG1 := Lib.hid (Moves.grown (g := g) v hg1 (.inr (.inr (.inl rfl))))
  have HX1 := Lib.hid (bind_go (f := alignX) rfl HX.out)
  obtain ⟨s1, hs1⟩ : ∃ s1 : Sx, (⟨(s.pos + 7) / 8 * 8, s.out, s.steps⟩ : Sx) = s1 := ⟨_, rfl⟩
  have hp1 : s1.pos = (s.pos + 7) / 8 * 8 := by rw [← hs1]
  have HP1 := Lib.hid hp1
  rw [hs1] at HM1 HX1
  generalize gapR s.pos = gap
  clear hR1 hg1 hp1 hs1 HX c0
  go_wp2_with fail
  refine (mnum_any 16 (by omega) w1 HM1.out).mono ?_
  rintro e w2 (⟨a, s2, v2, hx2, hm2, hg2, he2⟩ | ⟨k2, b2, v2, hx2, rfl, hb2, hc2, hg2⟩)
  rotate_left
  · exact ⟨rfl, Out.passed HG1.out (bind_err hx2 HX1.out) hb2 hc2 hg2⟩
  obtain rfl := he2
  have ha : a < 65536 := num_lt hx2
  have HM2 := Lib.hid hm2
  have HG2 := Lib.hid (HG1.out.trans hg2)
  have HX2 := Lib.hid (bind_go hx2 HX1.out)
  have HP2 : RowKit.Hid (s2.pos = (s.pos + 7) / 8 * 8 + 16) := Lib.hid (by rw [(num_ok hx2).1, HP1.out])
  clear hm2 hg2 hx2 HM1 HG1 HX1 HP1
  go_wp2_with fail
  refine (mnum_any 16 (by omega) w2 HM2.out).mono ?_
  rintro e w3 (⟨t, s3, v3, hx3, hm3, hg3, he3⟩ | ⟨k2, b2, v3, hx3, rfl, hb2, hc2, hg3⟩)
  rotate_left
  · exact ⟨rfl, Out.passed HG2.out (bind_err hx3 HX2.out) hb2 hc2 hg3⟩
  obtain rfl := he3
  have ht : t < 65536 := num_lt hx3
  have HM3 := Lib.hid hm3
  have HG3 := Lib.hid (HG2.out.trans hg3)
  have hX3 := bind_go hx3 HX2.out
  have HP3 : RowKit.Hid (s3.pos = (s.pos + 7) / 8 * 8 + 32) := Lib.hid (by rw [(num_ok hx3).1, HP2.out])
  clear hm3 hg3 hx3 HM2 HG2 HX2 HP2
  have ex := xor64 a ha
  by_cases hsum : a + t = 65535
  rotate_left
  · have HX3 : RowKit.Hid (X = .error 2) := Lib.hid (by rw [← hX3, if_pos hsum]; rfl)
    have hd : ((t : Int) == 65535 - (a : Int)) = false := by rw [beq_eq_false_iff_ne]; omega
    clear hX3 hsum
    go_wp2_with fail
    refine (must_no w3 _ rfl).mono ?_
    rintro e w4 ⟨rfl, rfl⟩
    exact ⟨rfl, Out.thrown HX3.out HG3.out 2 rfl⟩
  have hd : ((t : Int) == 65535 - (a : Int)) = true := by rw [beq_iff_eq]; omega
  rw [if_neg (by omega)] at hX3
  have HX3 := Lib.hid hX3
  clear hX3 hsum
  go_wp2_with fail
  refine (must_ok w3 _ rfl).mono ?_
  rintro e w4 ⟨rfl, rfl⟩
  clear ex hd ht
  go_wp2_with fail
  refine (room_any a (by omega) w3 HM3.out).mono ?_
  rintro e w4 (⟨u4, s4, v4, hx4, hm4, hg4, he4⟩ | ⟨k2, b2, v4, hx4, rfl, hb2, hc2, hg4⟩)
  rotate_left
  · refine ⟨rfl, Out.passed HG3.out ?_ hb2 hc2 hg4⟩
    rw [← HX3.out, (room_err hx4).1]
    unfold storeX
    rw [if_pos (room_err hx4).2]
  obtain rfl := he4
  obtain ⟨rfl, hroom⟩ := room_ok hx4
  have c04 := hm4.cell0
  have HM4 := Lib.hid hm4
  have HG4 := Lib.hid (HG3.out.trans hg4)
  have HRM := Lib.hid hroom
  have HSP := Lib.hid hm4.sp
  have hX4 := HX3.out
  unfold storeX at hX4
  rw [if_neg (by omega)] at hX4
  clear hm4 hg4 hx4 HM3 HG3 HX3 hroom
  go_wp2_with fail
  refine (rbytes_any r (a : Int) w4 HM4.out.ra (by simp) HM4.out.nn).mono ?_
  rintro e w5 ⟨u, rfl, hu, hR5, hg5⟩
  have h8 : ¬ s4.pos % 8 ≠ 0 := by rw [HP3.out]; omega
  have hlen := HM4.out.bits
  have hll := HM4.out.len
  have hle := HM4.out.le
  by_cases hend : (8 * n - s4.pos) / 8 < a
  · have he : yE n s4.pos (a : Int) = 10 := y_end (by omega) h8 (by simpa using hend)
    have HX5 : RowKit.Hid (X = .error 10) := Lib.hid (by rw [← hX4, if_pos (by omega)])
    rw [he, show errV 10 = .iface 50 (.int .i64 10) from rfl]
    have HG5 := Lib.hid (HG4.out.trans (Moves.grown (g := g) v4 hg5 (.inr (.inr (.inl rfl)))))
    clear hR5 hg5 hu hX4 he hend h8 hlen hll hle HM4 c04
    go_wp2_with fail
    refine (pass_errno 10 w5).mono ?_
    rintro e w6 ⟨rfl, rfl⟩
    exact ⟨rfl, Out.thrown HX5.out HG5.out 10 rfl⟩
  have he : yE n s4.pos (a : Int) = 0 := y_ok (by omega) h8 (by simpa using hend)
  have hP : yP n s4.pos (a : Int) = s4.pos + 8 * a := by unfold yP; rw [he]; simp
  have hB : yB l s4.pos (a : Int) = bytesB ((bitsL l).drop s4.pos) a := by
    unfold yB
    rw [hll, he, if_pos rfl]
    obtain ⟨q, hq⟩ : ∃ q, s4.pos = 8 * q := ⟨s4.pos / 8, by omega⟩
    rw [hq, bitsL_drop, bytesB_bits a _ (by rw [List.length_drop, hll]; omega)]
    congr 2
    omega
  rw [if_neg (by omega)] at hX4
  have HX5 := Lib.hid hX4
  rw [hB] at hu
  rw [hP] at hR5
  have hbl : (bytesB ((bitsL l).drop s4.pos) a).length = a := bytesB_length _ _
  generalize bytesB ((bitsL l).drop s4.pos) a = bs at hu HX5 hbl
  obtain ⟨Au, cu, rfl⟩ := hu.slice
  rw [hbl] at hu ⊢
  have hcap := hu.capz
  have HRd := Lib.hid hu.rd.2
  have hM5 := HM4.out.reader hR5 hg5 (by omega)
  have HG5 := Lib.hid (HG4.out.trans (Moves.grown (g := g) v4 hg5 (.inr (.inr (.inl rfl)))))
  have c51 := hM5.cell1
  have HM5 := Lib.hid hM5
  have HCP := Lib.hid hcap
  have HBL := Lib.hid hbl
  rw [he, show errV 0 = .nilIface from rfl]
  clear hM5 hcap hbl hu hR5 hg5 hX4 hB hP he hend h8 hlen hll hle HM4 HG4 c04
  go_wp2_with fail
  refine (pass_nil w5).mono ?_
  rintro e w6 ⟨rfl, rfl⟩
  have HBS : RowKit.Hid (g + 1 ≤ w5.heap.size) := Lib.hid HM5.out.lt
  have HOL : RowKit.Hid (s4.out.length + a ≤ 4000000) := Lib.hid (by have := HRM.out; have := HM5.out.lm; omega)
  go_wp2_with (with_reducible refine cat8b w5 rfl _ _ rfl (g + 1) w5.heap.size v4 s4.out bs Au a cu rfl rfl HM5.out.own HRd.out HCP.out HBS.out HOL.out ?_)
  intro v6 w6 ho6 hg6 hf6
  obtain ⟨A6, c6, rfl⟩ := ho6.slice
  obtain ⟨q6, hq6⟩ : ∃ q6, (s4.out ++ bs).length = q6 := ⟨_, rfl⟩
  rw [hq6] at ho6 hf6 ⊢
  clear hq6
  obtain ⟨fl, fd, hrow, hfx⟩ := HM5.out.fx
  have hr6 := hrow.grown hg6 (HM5.out.ne (Nat.le_refl _))
  have c61 : w6.cell? ⟨g, 1, none⟩ = some v4 := hr6.cell 1
  have f61 := hr6.thawed 1
  obtain ⟨hM7, hG7⟩ := HM5.out.text hg6 ho6 hf6 (by rw [List.length_append, HBL.out]; exact HRM.out)
  have HG7 := Lib.hid (HG5.out.trans hG7)
  have c73 := hM7.cell3
  have f73 := hM7.thawed 3
  have HM7 := Lib.hid hM7
  have hsp := hM7.sp
  have hle := hM7.le
  have hnn := hM7.nn
  have hsp4 : s4.steps ≤ s4.pos + 8 * a := hsp
  have hle4 : s4.pos + 8 * a ≤ 8 * n := hle
  clear hM7 hG7 hrow hfx hr6 ho6 hg6 hf6 hsp hle
  go_wp2_with fail
  go_end0
  have hS : s4.steps ≤ s4.pos := HSP.out
  obtain ⟨hM8, hG8⟩ := HM7.out.steps a (by show s4.steps + a ≤ s4.pos + 8 * a; omega) ((s4.steps : Int) + (a : Int)) (by simp)
  exact .inl ⟨(), _, _, HX5.out.symm, hM8, HG7.out.trans hG8, rfl⟩
end Go.Proofs.YtpnnlhegncbfaaaDoor
namespace Go.Proofs.YtpnnlhegncbfaaaDoor
set_option maxRecDepth 20000
open Go.RowKit

variable {g r H : Nat} {A : Option Addr} {n c : Nat} {l : List UInt8} {lim : Nat} {v : Value} {s : Sx}
/-- A byte put out: the append and the store. -/
theorem copyL_step {far k : Nat} {o : List UInt8} {x : UInt8} (h : o[o.length - far]? = some x) : copyL far (k + 1) o = copyL far k (o ++ [x]) := by
  rw [copyL, List.getD_eq_getElem?_getD, h]; rfl

set_option maxHeartbeats 1000000 in
set_option maxRecDepth 20000 in
theorem repeat_any (k far : Nat) (hk : k ≤ 1000) (h1 : 1 ≤ far) (hf : far ≤ 1000000) (w : World) (hm : MS w g r H A n c l lim v s) :
    Calls Tryd.prog 87 #[.pointer (some ⟨g, 0, none⟩), .int .i64 (k : Int), .int .i64 (far : Int)] w (Out w g r H A n c l lim v (copyX k far (bitsL l) lim s) unit) := by
  obtain ⟨A1, c1, hv⟩ := hm.own.slice
  have cv := hm.cell1
  rw [hv] at cv
  have HM := Lib.hid hm
  obtain ⟨q, hq⟩ : ∃ q, s.out.length = q := ⟨_, rfl⟩
  have HQ := Lib.hid hq
  have hql : q ≤ 1048576 := by have := hm.ol; have := hm.lm; omega
  rw [hq] at cv
  unfold copyX
  rw [hq]
  clear hm hv hq
  by_cases h2 : q < far
  · rw [if_pos h2]
    have hd : decide ((far : Int) ≤ (q : Int)) = false := decide_eq_false (by omega)
    go_enter Tryd.func87, Tryd.ntmps87
    go_wp2_with fail
    refine (must_no w _ (by first | rfl | (simp; omega))).mono ?_
    rintro e w1 ⟨rfl, rfl⟩
    exact ⟨rfl, Out.thrown rfl (Moves.refl w g r v) 2 rfl⟩
  · rw [if_neg h2]
    have hd : decide ((far : Int) ≤ (q : Int)) = true := decide_eq_true (by omega)
    obtain ⟨X, HX⟩ : ∃ X, RowKit.Hid ((if lim < q + k then Except.error 3 else Except.ok ((), (⟨s.pos, copyL far k s.out, s.steps⟩ : Sx))) = X) := ⟨_, Lib.hid rfl⟩
    rw [HX.out]
    go_enter Tryd.func87, Tryd.ntmps87
    go_wp2_with fail
    refine (must_ok w _ (by first | rfl | (simp; omega))).mono ?_
    rintro e w1 ⟨rfl, rfl⟩
    clear cv hd
    go_wp2_with fail
    refine (room_any k (by omega) w HM.out).mono ?_
    rintro e w1 (⟨u, s1, v1, hx1, hm1, hg1, he1⟩ | ⟨k2, b2, v1, hx1, rfl, hb2, hc2, hg1⟩)
    rotate_left
    · refine ⟨rfl, Out.passed (Moves.refl w g r v) ?_ hb2 hc2 hg1⟩
      have hh := room_err hx1
      rw [HQ.out] at hh
      rw [← HX.out, if_pos hh.2, hh.1]
    obtain rfl := he1
    have hh := room_ok hx1
    rw [hh.1] at hm1
    have hroom := hh.2
    rw [HQ.out] at hroom
    have HX1 : RowKit.Hid (Except.ok ((), (⟨s.pos, copyL far k s.out, s.steps⟩ : Sx)) = X) := Lib.hid (by rw [← HX.out, if_neg (by omega)])
    have HM1 := Lib.hid hm1
    have HG1 := Lib.hid hg1
    have HRM := Lib.hid hroom
    clear hh hroom hm1 hg1 hx1 HX HM
    go_wp2_with fail
    go_loopw [18] (fun i wr => ∃ (j : Nat) (v' : Value) (o' : List UInt8), j ≤ k ∧ i = .int .i64 (j : Int) ∧ MS wr g r H A n c l lim v' ⟨s.pos, o', s.steps⟩ ∧ Moves w wr g r v v' ∧ o'.length = q + j ∧ copyL far (k - j) o' = copyL far k s.out) (fun i _ => k - (intOf i).toNat)
    case atStart => exact ⟨0, v1, s.out, Nat.zero_le _, rfl, HM1.out, HG1.out, by rw [HQ.out]; rfl, rfl⟩
    case round =>
      clear HM1 HG1
      obtain ⟨j, v', o', hj, rfl, hm2, hg2, hl2, hc2⟩ := hrel
      by_cases hlt : j < k
      · obtain ⟨b, c', x, rfl, hx, hc⟩ := hm2.own.at8 (k := o'.length - far) (show o'.length - far < o'.length by omega)
        have cc := hm2.cell1
        have HXX := Lib.hid hx
        have HMW := Lib.hid hm2
        obtain ⟨fl, fd, hrow, hfx⟩ := hm2.fx
        have HRW := Lib.hid hrow
        clear hfx hrow
        have HGW := Lib.hid hg2
        have HL2 := Lib.hid hl2
        have HC2 := Lib.hid hc2
        obtain ⟨m, hmm⟩ : ∃ m, o'.length = m := ⟨_, rfl⟩
        have HMM := Lib.hid hmm
        rw [hmm] at cc hc HGW HMW HRW hl2
        obtain ⟨p, hp⟩ : ∃ p, m - far = p := ⟨_, rfl⟩
        rw [hp] at hc
        have e1 : (m : Int) - (far : Int) = (p : Int) := by omega
        have e2 : IntKind.i64.wrap (p : Int) = (p : Int) := wrap64_in _ (by omega) (by omega)
        have e3 : p < m := by omega
        have hd : decide ((j : Int) < (k : Int)) = true := decide_eq_true (by omega)
        have hx8 : x.toNat < 256 := x.toNat_lt
        have HB : RowKit.Hid (g + 1 ≤ wr.heap.size) := Lib.hid HMW.out.lt
        have HS : RowKit.Hid (o'.length + 1 ≤ 4000000) := Lib.hid (by omega)
        have HM9 : RowKit.Hid (m + 1 ≤ lim) := Lib.hid (by have := HRM.out; omega)
        clear hm2 hg2 hc2 hx hp hmm hl2
        go_wp2_with fail
        have HQX : RowKit.Hid ((o' ++ [x]).length = m + 1) := Lib.hid (by rw [List.length_append, HMM.out]; rfl)
        have cca : ∀ o, (wr.alloc o).cell? ⟨g, 1, none⟩ = some (.slice (some ⟨b, 0, none⟩) m c') := fun o => (World.cell?_alloc_some wr _ o (by rw [cc]; rfl)).trans cc
        go_region_law ((refine step8c wr rfl (.tmp 24) (.tmp 38) rfl (g + 1) _ o' [x] _ 1 rfl rfl HMW.out.own rfl rfl HB.out HS.out ?_); intro v6 w6 ho6 hg6 hf6; obtain ⟨A6, c6, hv6⟩ := ho6.slice; rw [HQX.out] at hv6; subst hv6; have hr6 := HRW.out.grown hg6 (HMW.out.ne (Nat.le_refl _)); have c61 : w6.cell? ⟨g, 1, none⟩ = some _ := hr6.cell 1; have f61 := hr6.thawed 1)
        all_goals
          obtain ⟨hM7, hG7⟩ := HMW.out.text hg6 ho6 hf6 (by rw [HQX.out]; exact HM9.out)
          have HG7 := Lib.hid (HGW.out.trans hG7)
          have HM7 := Lib.hid hM7
          clear hM7 hG7 hr6 ho6 hg6 hf6
          go_wp2_with fail
          go_roundw
          case rel => exact ⟨j + 1, _, o' ++ [x], by omega, by simp, HM7.out, HG7.out, by rw [HQX.out, ← HMM.out, HL2.out]; omega, by rw [← HC2.out, show k - j = (k - (j + 1)) + 1 by omega, copyL_step HXX.out]⟩
          case measure => simp [intOf]; omega
      · obtain rfl : j = k := by omega
        have hd : decide ((j : Int) < (j : Int)) = false := decide_eq_false (by omega)
        have HM3 := Lib.hid hm2
        have HG3 := Lib.hid hg2
        have HC3 : RowKit.Hid (o' = copyL far j s.out) := Lib.hid (by rw [← hc2, Nat.sub_self]; rfl)
        clear hm2 hg2 hc2 hl2
        go_wp2_with fail
        go_end0
        exact .inl ⟨(), _, v', HX1.out.symm, by rw [← HC3.out]; exact HM3.out, HG3.out, rfl⟩
end Go.Proofs.YtpnnlhegncbfaaaDoor
