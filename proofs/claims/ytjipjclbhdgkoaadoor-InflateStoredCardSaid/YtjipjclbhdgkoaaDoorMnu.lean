/- Contracts of the machine's number, sign, must and room. -/
import Derived.Test.YtjipjclbhdgkoaaDoorMch
import Derived.Deep.RegionWith
import Derived.StillTailTactics
namespace Go.Proofs.YtjipjclbhdgkoaaDoor
open Go.RowKit

variable {g r H : Nat} {A : Option Addr} {n c : Nat} {l : List UInt8} {lim : Nat} {v : Value} {s : Sx}
theorem num_err {k : Nat} {L : List UInt8} (h : L.length < s.pos + k) : numX k L lim s = .error 10 := by unfold numX; rw [if_pos h]
theorem num_fine {k : Nat} {L : List UInt8} (h : ¬ L.length < s.pos + k) : numX k L lim s = .ok (numB ((L.drop s.pos).take k), ⟨s.pos + k, s.out, s.steps⟩) := by unfold numX; rw [if_neg h]
theorem fld_bits (l : List UInt8) (p k : Nat) (h : p + k ≤ 8 * l.length) : fld (numL l) p k = numB (((bitsL l).drop p).take k) := by
  rw [numB_part (bin_bitsL l) p k (by rw [bitsL_length]; exact h), numB_bitsL]; rfl
theorem num_lt {k : Nat} {s' : Sx} {a : Nat} (h : numX k (bitsL l) lim s = .ok (a, s')) : a < 2 ^ k := by
  unfold numX at h
  split at h
  · cases h
  · rename_i hl
    injection h with h
    injection h with h1 h2
    subst h1
    rw [numB_part (bin_bitsL l) s.pos k (by omega)]
    exact Nat.mod_lt _ (Nat.two_pow_pos k)

set_option maxHeartbeats 400000 in
theorem mnum_any (k : Nat) (hk : k ≤ 16) (w : World) (hm : MS w g r H A n c l lim v s) :
    Calls Tryd.prog 27 #[.pointer (some ⟨g, 0, none⟩), .int .i64 (k : Int)] w (Out w g r H A n c l lim v (numX k (bitsL l) lim s) ints) := by
  have c0 := hm.cell0
  have HM := Lib.hid hm
  clear hm
  by_cases h : 8 * n < s.pos + k
  · have HE : RowKit.Hid (bE n s.pos (k : Int) = 10) := Lib.hid (b_end (by omega) (by simpa using h))
    have HX := Lib.hid (num_err (lim := lim) (L := bitsL l) (s := s) (k := k) (by rw [HM.out.bits]; exact h))
    rw [HX.out]
    clear h
    go_enter Tryd.func27, Tryd.ntmps27
    go_wp2_with fail
    refine (rbits_any r (k : Int) w HM.out.ra (by simp) HM.out.nn).mono ?_
    rintro e w1 ⟨rfl, hR1, hg1⟩
    rw [HE.out, show errV 10 = .iface 39 (.int .i64 10) from rfl]
    have hP : bP n s.pos (k : Int) = s.pos := by unfold bP; rw [HE.out]; rfl
    rw [hP] at hR1
    have HM1 := Lib.hid (HM.out.reader hR1 hg1 (Nat.le_refl _))
    have HG1 := Lib.hid (Moves.grown (g := g) v hg1 (.inr (.inr (.inl rfl))))
    generalize bX (numL l) n s.pos (k : Int) = xx
    clear hR1 hg1 hP
    go_wp2_with fail
    refine (pass_errno 10 w1).mono ?_
    rintro e w2 ⟨rfl, rfl⟩
    exact ⟨rfl, Out.thrown rfl HG1.out 10 rfl⟩
  · have HE : RowKit.Hid (bE n s.pos (k : Int) = 0) := Lib.hid (b_ok (by omega) (by simpa using h))
    have HX := Lib.hid (num_fine (lim := lim) (L := bitsL l) (s := s) (k := k) (by rw [HM.out.bits]; exact h))
    rw [HX.out]
    have HF : RowKit.Hid (bX (numL l) n s.pos (k : Int) = numB (((bitsL l).drop s.pos).take k)) := Lib.hid (by
      unfold bX; rw [HE.out, if_pos rfl]; exact fld_bits l s.pos k (by rw [HM.out.len]; omega))
    have hlt : numB (((bitsL l).drop s.pos).take k) < 2 ^ 16 := Nat.lt_of_lt_of_le (num_lt (s := s) (lim := lim) HX.out) (Nat.pow_le_pow_right (by decide) hk)
    generalize numB (((bitsL l).drop s.pos).take k) = y at HF hlt ⊢
    clear h HX
    go_enter Tryd.func27, Tryd.ntmps27
    go_wp2_with fail
    refine (rbits_any r (k : Int) w HM.out.ra (by simp) HM.out.nn).mono ?_
    rintro e w1 ⟨rfl, hR1, hg1⟩
    rw [HE.out, HF.out, show errV 0 = .nilIface from rfl]
    have hP : bP n s.pos (k : Int) = s.pos + k := by unfold bP; rw [HE.out]; rfl
    rw [hP] at hR1
    have HM1 := Lib.hid (HM.out.reader hR1 hg1 (Nat.le_add_right _ _))
    have HG1 := Lib.hid (Moves.grown (g := g) v hg1 (.inr (.inr (.inl rfl))))
    clear hR1 hg1 hP
    have hy : y < 65536 := hlt
    go_wp2_with fail
    refine (pass_nil w1).mono ?_
    rintro e w2 ⟨rfl, rfl⟩
    go_wp2_with fail
    go_ret
    exact .inl ⟨y, _, v, rfl, HM1.out, HG1.out, rfl⟩

theorem sign_ok {ls : List Nat} {M : List UInt8} (h : tkE ls (M.drop s.pos) = 0) : signX ls M lim s = .ok (tkS ls (M.drop s.pos), ⟨s.pos + tkN ls (M.drop s.pos), s.out, s.steps⟩) := by unfold signX; rw [if_neg (by omega)]
theorem sign_bad {ls : List Nat} {M : List UInt8} (h : tkE ls (M.drop s.pos) ≠ 0) : signX ls M lim s = .error (tkE ls (M.drop s.pos)) := by unfold signX; rw [if_pos h]

set_option maxHeartbeats 400000 in
theorem msign_any (a : Nat) (ls : List Nat) (w : World) (hm : MS w g r H A n c l lim v s) (hc : CD w g v a ls) :
    Calls Tryd.prog 52 #[.pointer (some ⟨g, 0, none⟩), .pointer (some ⟨a, 0, none⟩)] w (Out w g r H A n c l lim v (signX ls (bitsL l) lim s) ints) := by
  have c0 := hm.cell0
  have HM := Lib.hid hm
  obtain ⟨lo, hi, h1, h2, h3, h4⟩ := hc
  have HT := Lib.hid (take_any (S := [r]) (p := s.pos) hi a r ls w lo h1 (Nat.lt_trans hm.rg h2) hm.ra (by simp) h3 hm.nn)
  clear hm h1 h2 h3 h4
  by_cases h : tkE ls ((bitsL l).drop s.pos) = 0
  · have HX := Lib.hid (sign_ok (lim := lim) h)
    rw [HX.out]
    have HE := Lib.hid h
    go_enter Tryd.func52, Tryd.ntmps52
    go_wp2_with fail
    refine HT.out.mono ?_
    rintro e w1 ⟨rfl, hR1, hg1⟩
    have HM1 := Lib.hid (HM.out.reader hR1 hg1 (Nat.le_add_right _ _))
    have HG1 := Lib.hid (Moves.grown (g := g) v hg1 (.inr (.inr (.inl rfl))))
    rw [show left l s.pos = (bitsL l).drop s.pos from rfl] at HM1 ⊢
    rw [HE.out, show errV 0 = .nilIface from rfl]
    obtain ⟨y, hy⟩ : ∃ y, tkS ls ((bitsL l).drop s.pos) = y := ⟨_, rfl⟩
    have HY := Lib.hid hy
    rw [hy]
    clear hR1 hg1 HE HX h hy
    go_wp2_with fail
    refine (pass_nil w1).mono ?_
    rintro e w2 ⟨rfl, rfl⟩
    go_wp2_with fail
    go_ret
    exact .inl ⟨_, _, v, rfl, HM1.out, HG1.out, by rw [HY.out]; rfl⟩
  · have HX := Lib.hid (sign_bad (lim := lim) h)
    rw [HX.out]
    obtain ⟨k, hk⟩ : ∃ k, tkE ls ((bitsL l).drop s.pos) = k + 1 := ⟨tkE ls ((bitsL l).drop s.pos) - 1, by omega⟩
    have HE := Lib.hid hk
    clear h hk
    go_enter Tryd.func52, Tryd.ntmps52
    go_wp2_with fail
    refine HT.out.mono ?_
    rintro e w1 ⟨rfl, hR1, hg1⟩
    have HM1 := Lib.hid (HM.out.reader hR1 hg1 (Nat.le_add_right _ _))
    have HG1 := Lib.hid (Moves.grown (g := g) v hg1 (.inr (.inr (.inl rfl))))
    rw [show left l s.pos = (bitsL l).drop s.pos from rfl] at HM1 ⊢
    rw [HE.out, show errV (k + 1) = .iface 39 (.int .i64 ((k + 1 : Nat) : Int)) from rfl]
    generalize tkS ls ((bitsL l).drop s.pos) = y
    clear hR1 hg1 HX
    obtain ⟨z, hz⟩ : ∃ z : Int, ((k + 1 : Nat) : Int) = z := ⟨_, rfl⟩
    rw [hz]
    have HZ := Lib.hid hz
    clear hz
    go_wp2_with fail
    refine (pass_errno z w1).mono ?_
    rintro e w2 ⟨rfl, rfl⟩
    exact ⟨rfl, Out.thrown rfl HG1.out z (by rw [HE.out]; exact HZ.out.symm)⟩

set_option maxHeartbeats 400000 in
theorem gmust_ok (c : Int) (t : ByteArray) (w : World) (b : Bool) (hb : b = true) : Calls Tryd.prog 60 #[.bool b, .int .i64 c, .string t] w fun e w' => e = .returned (.tuple #[]) ∧ w = w' := by
  subst hb
  go_enter Tryd.func60, Tryd.ntmps60
  go_wp2_with fail
  go_end0
  exact ⟨rfl, rfl⟩
set_option maxHeartbeats 400000 in
theorem gmust_no (c : Int) (t : ByteArray) (w : World) (b : Bool) (hb : b = false) : Calls Tryd.prog 60 #[.bool b, .int .i64 c, .string t] w fun e w' => e = .panicked (flt ⟨w.heap.size, 0, none⟩) ∧ w.alloc (.cells #[.int .i64 c, .string t] 75) = w' := by
  subst hb
  go_enter Tryd.func60, Tryd.ntmps60
  go_wp2_with fail
  refine (throw_any c t w).mono ?_
  rintro e w' ⟨rfl, rfl⟩
  exact ⟨rfl, rfl, rfl⟩
set_option maxHeartbeats 400000 in
theorem must_ok (w : World) (b : Bool) (hb : b = true) : Calls Tryd.prog 49 #[.bool b] w fun e w' => e = .returned (.tuple #[]) ∧ w = w' := by
  subst hb
  go_enter Tryd.func49, Tryd.ntmps49
  go_wp2_with fail
  refine (gmust_ok 2 _ w true rfl).mono ?_
  rintro e w' ⟨rfl, rfl⟩
  go_wp2_with fail
  go_end0
  exact ⟨rfl, rfl⟩
set_option maxHeartbeats 400000 in
theorem must_no (w : World) (b : Bool) (hb : b = false) : Calls Tryd.prog 49 #[.bool b] w fun e w' => e = .panicked (flt ⟨w.heap.size, 0, none⟩) ∧ w.alloc (.cells #[.int .i64 2, .string ⟨#[]⟩] 75) = w' := by
  subst hb
  go_enter Tryd.func49, Tryd.ntmps49
  go_wp2_with fail
  refine (gmust_no 2 _ w false rfl).mono ?_
  rintro e w' ⟨rfl, rfl⟩
  exact ⟨rfl, rfl, rfl⟩
end Go.Proofs.YtjipjclbhdgkoaaDoor
