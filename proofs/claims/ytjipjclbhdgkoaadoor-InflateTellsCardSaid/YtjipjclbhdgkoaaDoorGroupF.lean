/- Contracts of the machine's number, sign, must and room. -/
/- Contract of the machine's room; what a step comes to, one way at a time. -/
/- The append laws of bytes, for longer rows. -/
import Derived.Test.YtjipjclbhdgkoaaDoorMch
import Derived.Deep.RegionWith
import Derived.StillTailTactics
import Derived.Test.YtjipjclbhdgkoaaDoorGroupA
namespace Go.Proofs.YtjipjclbhdgkoaaDoor
open Go.RowKit

variable {g r H : Nat} {A : Option Addr} {n c : Nat} {l : List UInt8} {lim : Nat} {v : Value} {s : Sx}
theorem num_err {k : Nat} {L : List UInt8} (h : L.length < s.pos + k) : numX k L lim s = .error 10 := by unfold numX; rw [if_pos h]
theorem num_fine {k : Nat} {L : List UInt8} (h : ¬ L.length < s.pos + k) : numX k L lim s = .ok (numB ((L.drop s.pos).take k), ⟨s.pos + k, s.out, s.steps⟩) := by unfold numX; rw [if_neg h]
theorem fld_bits (l : List UInt8) (p k : Nat) (h : p + k ≤ 8 * l.length) : fld (numL l) p k = numB (((bitsL l).drop p).take k) := by
  rw [numB_part (bin_bitsL l) p k (by rw [bitsL_length]; exact h), numB_bitsL]; rfl
theorem num_lt {k : Nat} {s' : Sx} {a : Nat} (h : numX k (bitsL l) lim s = .ok (a, s')) : a < 2 ^ k := by
  unfold numX at h
  split at h
  · cases h
  · rename_i hl
    injection h with h
    injection h with h1 h2
    subst h1
    rw [numB_part (bin_bitsL l) s.pos k (by omega)]
    exact Nat.mod_lt _ (Nat.two_pow_pos k)

set_option maxHeartbeats 400000 in
theorem mnum_any (k : Nat) (hk : k ≤ 16) (w : World) (hm : MS w g r H A n c l lim v s) :
    Calls Tryd.prog 27 #[.pointer (some ⟨g, 0, none⟩), .int .i64 (k : Int)] w (Out w g r H A n c l lim v (numX k (bitsL l) lim s) ints) := by
  have c0 := hm.cell0
  have HM := Lib.hid hm
  clear hm
  by_cases h : 8 * n < s.pos + k
  · have HE : RowKit.Hid (bE n s.pos (k : Int) = 10) := Lib.hid (b_end (by omega) (by simpa using h))
    have HX := Lib.hid (num_err (lim := lim) (L := bitsL l) (s := s) (k := k) (by rw [HM.out.bits]; exact h))
    rw [HX.out]
    clear h
    go_enter Tryd.func27, Tryd.ntmps27
    go_wp2_with fail
    refine (rbits_any r (k : Int) w HM.out.ra (by simp) HM.out.nn).mono ?_
    rintro e w1 ⟨rfl, hR1, hg1⟩
    rw [HE.out, show errV 10 = .iface 39 (.int .i64 10) from rfl]
    have hP : bP n s.pos (k : Int) = s.pos := by unfold bP; rw [HE.out]; rfl
    rw [hP] at hR1
    have HM1 := Lib.hid (HM.out.reader hR1 hg1 (Nat.le_refl _))
    have HG1 := Lib.hid (Moves.grown (g := g) v hg1 (.inr (.inr (.inl rfl))))
    generalize bX (numL l) n s.pos (k : Int) = xx
    clear hR1 hg1 hP
    go_wp2_with fail
    refine (pass_errno 10 w1).mono ?_
    rintro e w2 ⟨rfl, rfl⟩
    exact ⟨rfl, Out.thrown rfl HG1.out 10 rfl⟩
  · have HE : RowKit.Hid (bE n s.pos (k : Int) = 0) := Lib.hid (b_ok (by omega) (by simpa using h))
    have HX := Lib.hid (num_fine (lim := lim) (L := bitsL l) (s := s) (k := k) (by rw [HM.out.bits]; exact h))
    rw [HX.out]
    have HF : RowKit.Hid (bX (numL l) n s.pos (k : Int) = numB (((bitsL l).drop s.pos).take k)) := Lib.hid (by
      unfold bX; rw [HE.out, if_pos rfl]; exact fld_bits l s.pos k (by rw [HM.out.len]; omega))
    have hlt : numB (((bitsL l).drop s.pos).take k) < 2 ^ 16 := Nat.lt_of_lt_of_le (num_lt (s := s) (lim := lim) HX.out) (Nat.pow_le_pow_right (by decide) hk)
    generalize numB (((bitsL l).drop s.pos).take k) = y at HF hlt ⊢
    clear h HX
    go_enter Tryd.func27, Tryd.ntmps27
    go_wp2_with fail
    refine (rbits_any r (k : Int) w HM.out.ra (by simp) HM.out.nn).mono ?_
    rintro e w1 ⟨rfl, hR1, hg1⟩
    rw [HE.out, HF.out, show errV 0 = .nilIface from rfl]
    have hP : bP n s.pos (k : Int) = s.pos + k := by unfold bP; rw [HE.out]; rfl
    rw [hP] at hR1
    have HM1 := Lib.hid (HM.out.reader hR1 hg1 (Nat.le_add_right _ _))
    have HG1 := Lib.hid (Moves.grown (g := g) v hg1 (.inr (.inr (.inl rfl))))
    clear hR1 hg1 hP
    have hy : y < 65536 := hlt
    go_wp2_with fail
    refine (pass_nil w1).mono ?_
    rintro e w2 ⟨rfl, rfl⟩
    go_wp2_with fail
    go_ret
    exact .inl ⟨y, _, v, rfl, HM1.out, HG1.out, rfl⟩

theorem sign_ok {ls : List Nat} {M : List UInt8} (h : tkE ls (M.drop s.pos) = 0) : signX ls M lim s = .ok (tkS ls (M.drop s.pos), ⟨s.pos + tkN ls (M.drop s.pos), s.out, s.steps⟩) := by unfold signX; rw [if_neg (by omega)]
theorem sign_bad {ls : List Nat} {M : List UInt8} (h : tkE ls (M.drop s.pos) ≠ 0) : signX ls M lim s = .error (tkE ls (M.drop s.pos)) := by unfold signX; rw [if_pos h]

set_option maxHeartbeats 400000 in
theorem msign_any (a : Nat) (ls : List Nat) (w : World) (hm : MS w g r H A n c l lim v s) (hc : CD w g v a ls) :
    Calls Tryd.prog 52 #[.pointer (some ⟨g, 0, none⟩), .pointer (some ⟨a, 0, none⟩)] w (Out w g r H A n c l lim v (signX ls (bitsL l) lim s) ints) := by
  have c0 := hm.cell0
  have HM := Lib.hid hm
  obtain ⟨lo, hi, h1, h2, h3, h4⟩ := hc
  have HT := Lib.hid (take_any (S := [r]) (p := s.pos) hi a r ls w lo h1 (Nat.lt_trans hm.rg h2) hm.ra (by simp) h3 hm.nn)
  clear hm h1 h2 h3 h4
  by_cases h : tkE ls ((bitsL l).drop s.pos) = 0
  · have HX := Lib.hid (sign_ok (lim := lim) h)
    rw [HX.out]
    have HE := Lib.hid h
    go_enter Tryd.func52, Tryd.ntmps52
    go_wp2_with fail
    refine HT.out.mono ?_
    rintro e w1 ⟨rfl, hR1, hg1⟩
    have HM1 := Lib.hid (HM.out.reader hR1 hg1 (Nat.le_add_right _ _))
    have HG1 := Lib.hid (Moves.grown (g := g) v hg1 (.inr (.inr (.inl rfl))))
    rw [show left l s.pos = (bitsL l).drop s.pos from rfl] at HM1 ⊢
    rw [HE.out, show errV 0 = .nilIface from rfl]
    obtain ⟨y, hy⟩ : ∃ y, tkS ls ((bitsL l).drop s.pos) = y := ⟨_, rfl⟩
    have HY := Lib.hid hy
    rw [hy]
    clear hR1 hg1 HE HX h hy
    go_wp2_with fail
    refine (pass_nil w1).mono ?_
    rintro e w2 ⟨rfl, rfl⟩
    go_wp2_with fail
    go_ret
    exact .inl ⟨_, _, v, rfl, HM1.out, HG1.out, by rw [HY.out]; rfl⟩
  · have HX := Lib.hid (sign_bad (lim := lim) h)
    rw [HX.out]
    obtain ⟨k, hk⟩ : ∃ k, tkE ls ((bitsL l).drop s.pos) = k + 1 := ⟨tkE ls ((bitsL l).drop s.pos) - 1, by omega⟩
    have HE := Lib.hid hk
    clear h hk
    go_enter Tryd.func52, Tryd.ntmps52
    go_wp2_with fail
    refine HT.out.mono ?_
    rintro e w1 ⟨rfl, hR1, hg1⟩
    have HM1 := Lib.hid (HM.out.reader hR1 hg1 (Nat.le_add_right _ _))
    have HG1 := Lib.hid (Moves.grown (g := g) v hg1 (.inr (.inr (.inl rfl))))
    rw [show left l s.pos = (bitsL l).drop s.pos from rfl] at HM1 ⊢
    rw [HE.out, show errV (k + 1) = .iface 39 (.int .i64 ((k + 1 : Nat) : Int)) from rfl]
    generalize tkS ls ((bitsL l).drop s.pos) = y
    clear hR1 hg1 HX
    obtain ⟨z, hz⟩ : ∃ z : Int, ((k + 1 : Nat) : Int) = z := ⟨_, rfl⟩
    rw [hz]
    have HZ := Lib.hid hz
    clear hz
    go_wp2_with fail
    refine (pass_errno z w1).mono ?_
    rintro e w2 ⟨rfl, rfl⟩
    exact ⟨rfl, Out.thrown rfl HG1.out z (by rw [HE.out]; exact HZ.out.symm)⟩

set_option maxHeartbeats 400000 in
theorem gmust_ok (c : Int) (t : ByteArray) (w : World) (b : Bool) (hb : b = true) : Calls Tryd.prog 60 #[.bool b, .int .i64 c, .string t] w fun e w' => e = .returned (.tuple #[]) ∧ w = w' := by
  subst hb
  go_enter Tryd.func60, Tryd.ntmps60
  go_wp2_with fail
  go_end0
  exact ⟨rfl, rfl⟩
set_option maxHeartbeats 400000 in
theorem gmust_no (c : Int) (t : ByteArray) (w : World) (b : Bool) (hb : b = false) : Calls Tryd.prog 60 #[.bool b, .int .i64 c, .string t] w fun e w' => e = .panicked (flt ⟨w.heap.size, 0, none⟩) ∧ w.alloc (.cells #[.int .i64 c, .string t] 75) = w' := by
  subst hb
  go_enter Tryd.func60, Tryd.ntmps60
  go_wp2_with fail
  refine (throw_any c t w).mono ?_
  rintro e w' ⟨rfl, rfl⟩
  exact ⟨rfl, rfl, rfl⟩
set_option maxHeartbeats 400000 in
theorem must_ok (w : World) (b : Bool) (hb : b = true) : Calls Tryd.prog 49 #[.bool b] w fun e w' => e = .returned (.tuple #[]) ∧ w = w' := by
  subst hb
  go_enter Tryd.func49, Tryd.ntmps49
  go_wp2_with fail
  refine (gmust_ok 2 _ w true rfl).mono ?_
  rintro e w' ⟨rfl, rfl⟩
  go_wp2_with fail
  go_end0
  exact ⟨rfl, rfl⟩
set_option maxHeartbeats 400000 in
theorem must_no (w : World) (b : Bool) (hb : b = false) : Calls Tryd.prog 49 #[.bool b] w fun e w' => e = .panicked (flt ⟨w.heap.size, 0, none⟩) ∧ w.alloc (.cells #[.int .i64 2, .string ⟨#[]⟩] 75) = w' := by
  subst hb
  go_enter Tryd.func49, Tryd.ntmps49
  go_wp2_with fail
  refine (gmust_no 2 _ w false rfl).mono ?_
  rintro e w' ⟨rfl, rfl⟩
  exact ⟨rfl, rfl, rfl⟩
end Go.Proofs.YtjipjclbhdgkoaaDoor
namespace Go.Proofs.YtjipjclbhdgkoaaDoor
open Go.RowKit

variable {g r H : Nat} {A : Option Addr} {n c : Nat} {l : List UInt8} {lim : Nat} {v : Value} {s : Sx}
/-- Is there room for k bytes more? -/
def roomX (k : Nat) : X Unit := fun _ lim s => if lim < s.out.length + k then .error 3 else .ok ((), s)
theorem wrap64_in (z : Int) (h0 : -9223372036854775808 ≤ z) (h1 : z ≤ 9223372036854775807) : IntKind.i64.wrap z = z := by rw [IntKind.wrap_i64]; omega
theorem drew_grown (w : World) : w.grownBy w.drew none := grown_drewN w 1

set_option maxHeartbeats 1000000 in
set_option maxRecDepth 20000 in
theorem room_any (k : Nat) (hk : k ≤ 1000000) (w : World) (hm : MS w g r H A n c l lim v s) :
    Calls Tryd.prog 50 #[.pointer (some ⟨g, 0, none⟩), .int .i64 (k : Int)] w (Out w g r H A n c l lim v (roomX k (bitsL l) lim s) unit) := by
  obtain ⟨A1, c1, hv⟩ := hm.own.slice
  have c2 := hm.cell2
  have cv := hm.cell1
  have hlm := hm.lm
  have hol := hm.ol
  have HM := Lib.hid hm
  rw [hv] at cv
  clear hm hv
  unfold roomX
  obtain ⟨q, hq⟩ : ∃ q, s.out.length = q := ⟨_, rfl⟩
  rw [hq] at cv hol ⊢
  clear hq
  by_cases h : lim < q + k
  · rw [if_pos h]
    have HD : RowKit.Hid (decide ((k : Int) ≤ RowKit.wrap64 ((lim : Int) - (q : Int))) = false) := Lib.hid (decide_eq_false (by unfold RowKit.wrap64; omega))
    clear h hlm hol
    go_enter Tryd.func50, Tryd.ntmps50
    go_still_tail 12, (by kernel_rfl)
    change wpList _ _ _ _ _ w.drew
    have HG1 := Lib.hid (Moves.grown (g := g) (r := r) v (drew_grown w) (.inl rfl))
    generalize w.drew = w2 at HG1 ⊢
    go_wp2_with fail
    refine (gmust_no 3 _ w2 _ HD.out).mono ?_
    rintro e w1 ⟨rfl, rfl⟩
    exact ⟨rfl, Out.thrown rfl HG1.out 3 rfl⟩
  · rw [if_neg h]
    have HD : RowKit.Hid (decide ((k : Int) ≤ RowKit.wrap64 ((lim : Int) - (q : Int))) = true) := Lib.hid (decide_eq_true (by unfold RowKit.wrap64; omega))
    clear h hlm hol
    go_enter Tryd.func50, Tryd.ntmps50
    go_still_tail 12, (by kernel_rfl)
    change wpList _ _ _ _ _ w.drew
    have HG1 := Lib.hid (Moves.grown (g := g) (r := r) v (drew_grown w) (.inl rfl))
    have HM1 := Lib.hid (HM.out.still (drew_grown w))
    generalize w.drew = w2 at HG1 HM1 ⊢
    go_wp2_with fail
    refine (gmust_ok 3 _ w2 _ HD.out).mono ?_
    rintro e w1 ⟨rfl, rfl⟩
    go_wp2_with fail
    go_end0
    exact .inl ⟨(), s, v, rfl, HM1.out, HG1.out, rfl⟩
theorem Out.ok {α : Type} {w w' : World} {x : Except Nat (α × Sx)} {P : α → Ending → World → Value → Prop} {e : Ending} {a : α} {s' : Sx} (h : Out w g r H A n c l lim v x P e w') (hx : x = .ok (a, s')) :
    ∃ v', MS w' g r H A n c l lim v' s' ∧ Moves w w' g r v v' ∧ P a e w' v' := by
  rcases h with ⟨a1, s1, v1, h1, h2, h3, h4⟩ | ⟨k, b, v1, h1, _⟩
  · rw [hx] at h1; injection h1 with h1; injection h1 with h5 h6; subst h5 h6; exact ⟨v1, h2, h3, h4⟩
  · rw [hx] at h1; cases h1
theorem Out.no {α : Type} {w w' : World} {x : Except Nat (α × Sx)} {P : α → Ending → World → Value → Prop} {e : Ending} {k : Nat} (h : Out w g r H A n c l lim v x P e w') (hx : x = .error k) :
    ∃ b v', e = .panicked (flt ⟨b, 0, none⟩) ∧ w.heap.size ≤ b ∧ w'.cell? ⟨b, 0, none⟩ = some (.int .i64 (k : Int)) ∧ Moves w w' g r v v' := by
  rcases h with ⟨a1, s1, v1, h1, _⟩ | ⟨k1, b, v1, h1, h2, h3, h4, h5⟩
  · rw [hx] at h1; cases h1
  · rw [hx] at h1; injection h1 with h1; subst h1; exact ⟨b, v1, h2, h3, h4, h5⟩
end Go.Proofs.YtjipjclbhdgkoaaDoor
namespace Go.Proofs.YtjipjclbhdgkoaaDoor
open Go.RowKit

/-- append(out, b..) of bytes that were just laid in a block of their own. -/
theorem push8b {ops : Array Oper} {rest : List Oper} {o : Oper} {a : Act} {Q : Exit → Act → World → Prop} (w0 : World) (hgd : o.guard = none) (s x : Operand)
    (ho : o.op = .call { callee := .builtin .append, args := #[s, x], argTypes := #[22, 22] })
    (B : Nat) (v : Value) (l bs : List UInt8) (cs : Array Value) (m : Nat) (hs : a.eval s = v) (hx : a.eval x = .slice (some ⟨w0.heap.size, 0, none⟩) m m)
    (hown : Own w0 B v l) (hcs : cs.toList = us bs) (hm : bs.length = m) (hB : B ≤ w0.heap.size) (hl : l.length + m ≤ 4000000)
    (h : ∀ v' w', Own w' B v' (l ++ bs) → w0.grownBy w' v.ownBlock → Fresh w0 v v' → wpList Tryd.prog ops Q rest (a.put o.dst v') w') :
    wpList Tryd.prog ops Q (o :: rest) a (w0.alloc (.cells cs 5)) := by
  obtain ⟨i0, hi, hz0, hz1, hz2⟩ := info_parts info5
  refine wpList_append_own_at _ hgd s x 22 ho B 5 i0 (.int .u8 0) 1 1 Tryd.underlying22 hi hz0 hz1 hz2 rfl (by decide) v l.length (us l) hs (hown.alloc _)
    ⟨w0.heap.size, 0, none⟩ m m (us bs) hx (by rw [us_length, hm]; omega) ?_ (one8 bs) (by unfold maxLen; omega) (by omega) (by simp; omega) ?_
  · rw [← hcs]; exact cells_new w0 cs 5
  · intro v' w' h1 h2 _ h4
    refine h v' w' ?_ ((World.grownBy_alloc w0 _ _).trans h2) (Fresh.of h4 (by simp))
    unfold Own
    rw [List.length_append, hm, us_append]
    exact h1

/-- The same in a region that draws its order. -/
theorem step8b {ops : Array Oper} {o : Oper} {a : Act} {K : Act → World → Prop} {Q : Exit → Act → World → Prop} {E : Prop} (w0 : World) (hgd : o.guard = none) (s x : Operand)
    (ho : o.op = .call { callee := .builtin .append, args := #[s, x], argTypes := #[22, 22] })
    (B : Nat) (v : Value) (l bs : List UInt8) (cs : Array Value) (m : Nat) (hs : a.eval s = v) (hx : a.eval x = .slice (some ⟨w0.heap.size, 0, none⟩) m m)
    (hown : Own w0 B v l) (hcs : cs.toList = us bs) (hm : bs.length = m) (hB : B ≤ w0.heap.size) (hl : l.length + m ≤ 4000000)
    (h : ∀ v' w', Own w' B v' (l ++ bs) → w0.grownBy w' v.ownBlock → K (a.put o.dst v') w') :
    if Region.wanted o (yielded ops a.tmps) = true then Oper.wp Tryd.prog o a (w0.alloc (.cells cs 5)).drew K Q else E := by
  have hw : Region.wanted o (yielded ops a.tmps) = true := by simp [Region.wanted, hgd]
  rw [if_pos hw]
  obtain ⟨i0, hi, hz0, hz1, hz2⟩ := info_parts info5
  obtain ⟨v', w', hr, h2, h3, _, _⟩ := run_append_own_at (P := Tryd.prog) (w0.alloc (.cells cs 5)).drew B 22 o.type 5 i0 (.int .u8 0) 1 1 Tryd.underlying22 hi hz0 hz1 hz2 rfl (by decide) v l.length (us l) (hown.alloc _)
    ⟨w0.heap.size, 0, none⟩ m m (us bs) (by rw [us_length, hm]; omega) (by rw [← hcs]; exact cells_new w0 cs 5) (one8 bs) (by unfold maxLen; omega) (by omega) (by show B ≤ (w0.alloc _).heap.size; simp; omega)
  unfold Oper.wp execOp
  simp only [ho, resolve, invoke, builtin, Sem.run_bind, Sem.run_pure, Result.andThen_ok, List.map_toArray, List.map_cons, List.map_nil, hs, hx, hr]
  refine h v' w' ?_ ⟨h3.os, h3.tape, h3.output, Nat.le_trans (by simp) h3.size, fun k hk hne => (h3.block k (by show k < (w0.alloc _).heap.size; simp; omega) hne).trans (Below.heap_alloc w0 _ k hk)⟩
  unfold Own
  rw [List.length_append, hm, us_append]
  exact h2

/-- The same in a region that draws its order. -/
theorem step8c {ops : Array Oper} {o : Oper} {a : Act} {K : Act → World → Prop} {Q : Exit → Act → World → Prop} {E : Prop} (w0 : World) (hgd : o.guard = none) (s x : Operand)
    (ho : o.op = .call { callee := .builtin .append, args := #[s, x], argTypes := #[22, 22] })
    (B : Nat) (v : Value) (l bs : List UInt8) (cs : Array Value) (m : Nat) (hs : a.eval s = v) (hx : a.eval x = .slice (some ⟨w0.heap.size, 0, none⟩) m m)
    (hown : Own w0 B v l) (hcs : cs.toList = us bs) (hm : bs.length = m) (hB : B ≤ w0.heap.size) (hl : l.length + m ≤ 4000000)
    (h : ∀ v' w', Own w' B v' (l ++ bs) → w0.grownBy w' v.ownBlock → Fresh w0 v v' → K (a.put o.dst v') w') :
    if Region.wanted o (yielded ops a.tmps) = true then Oper.wp Tryd.prog o a (w0.alloc (.cells cs 5)).drew K Q else E := by
  have hw : Region.wanted o (yielded ops a.tmps) = true := by simp [Region.wanted, hgd]
  rw [if_pos hw]
  obtain ⟨i0, hi, hz0, hz1, hz2⟩ := info_parts info5
  obtain ⟨v', w', hr, h2, h3, _, h5⟩ := run_append_own_at (P := Tryd.prog) (w0.alloc (.cells cs 5)).drew B 22 o.type 5 i0 (.int .u8 0) 1 1 Tryd.underlying22 hi hz0 hz1 hz2 rfl (by decide) v l.length (us l) (hown.alloc _)
    ⟨w0.heap.size, 0, none⟩ m m (us bs) (by rw [us_length, hm]; omega) (by rw [← hcs]; exact cells_new w0 cs 5) (one8 bs) (by unfold maxLen; omega) (by omega) (by show B ≤ (w0.alloc _).heap.size; simp; omega)
  unfold Oper.wp execOp
  simp only [ho, resolve, invoke, builtin, Sem.run_bind, Sem.run_pure, Result.andThen_ok, List.map_toArray, List.map_cons, List.map_nil, hs, hx, hr]
  refine h v' w' ?_ ⟨h3.os, h3.tape, h3.output, Nat.le_trans (by simp) h3.size, fun k hk hne => (h3.block k (by show k < (w0.alloc _).heap.size; simp; omega) hne).trans (Below.heap_alloc w0 _ k hk)⟩ (Fresh.of h5 (by show w0.heap.size ≤ (w0.alloc _).heap.size; simp))
  unfold Own
  rw [List.length_append, hm, us_append]
  exact h2

set_option maxRecDepth 20000 in
/-- append(out, xs...) of bytes that lie anywhere, or nowhere. -/
theorem cat8b {ops : Array Oper} {rest : List Oper} {o : Oper} {a : Act} {Q : Exit → Act → World → Prop} (w0 : World) (hgd : o.guard = none) (s x : Operand)
    (ho : o.op = .call { callee := .builtin .append, args := #[s, x], argTypes := #[22, 22] })
    (B C : Nat) (v : Value) (l bs : List UInt8) (A : Option Addr) (m c : Nat) (hs : a.eval s = v) (hx : a.eval x = .slice A m c)
    (hown : Own w0 B v l) (hr : Rd w0 C A m (us bs)) (hA : A = none → c = 0) (hB : B ≤ w0.heap.size) (hl : l.length + m ≤ 4000000)
    (h : ∀ v' w', Own w' B v' (l ++ bs) → w0.grownBy w' v.ownBlock → Fresh w0 v v' → wpList Tryd.prog ops Q rest (a.put o.dst v') w') :
    wpList Tryd.prog ops Q (o :: rest) a w0 := by
  obtain ⟨i0, hi, hz0, hz1, hz2⟩ := info_parts info5
  have hm : bs.length = m := by have := hr.1; rwa [us_length] at this
  rcases A with _ | ad
  · have h0 : m = 0 := by
      rcases Nat.eq_zero_or_pos m with h0 | h0
      · exact h0
      · obtain ⟨g, o, he, _⟩ := hr.2 h0; cases he
    subst h0
    have : bs = [] := List.eq_nil_of_length_eq_zero hm
    subst this
    refine wpList_append_own_none hgd s x 22 ho B 5 i0 1 Tryd.underlying22 hi v l.length (us l) hs hown (by rw [hx, hA rfl]) ?_
    exact h v w0 (by simpa using hown) (World.grownBy.refl _ _) (Fresh.same _ _)
  · refine wpList_append_own_at _ hgd s x 22 ho B 5 i0 (.int .u8 0) 1 1 Tryd.underlying22 hi hz0 hz1 hz2 rfl (by decide) v l.length (us l) hs hown
      ad m c (us bs) hx (by rw [us_length, hm]; omega) ?_ (one8 bs) (by unfold maxLen; omega) (by omega) hB ?_
    · intro j u hu
      have h0 : 0 < m := by
        rcases Nat.eq_zero_or_pos m with h0 | h0
        · subst h0
          have : bs = [] := List.eq_nil_of_length_eq_zero hm
          subst this
          simp [us] at hu
        · exact h0
      obtain ⟨g, o, he, _, hc⟩ := hr.2 h0
      injection he with he
      subst he
      rw [Go.WideShapes.add_plain]
      exact hc j u hu
    · intro v' w' h1 h2 _ h4
      refine h v' w' ?_ h2 (Fresh.of h4 (Nat.le_refl _))
      unfold Own
      rw [List.length_append, hm, us_append]
      exact h1

end Go.Proofs.YtjipjclbhdgkoaaDoor
