/- Contracts of the reference's Bits, Peek, Align and Bytes. -/
import Derived.Test.YtafipnhpoopljaaRef
import Derived.Test.YtafipnhpoopljaaRmt
namespace Go.Proofs.Ytafipnhpoopljaa
open Go.RowKit

theorem results_mid {P : Program} {fn : Func} {q p r : Tmp} {ty : TypeId} (h : fn.results = #[.tmp q, .cell p ty, .tmp r]) (tmps : Array Value) (w : World) (g : Nat) (t : TypeId) (cs : Array Value) (d : TypeDesc) (v u : Value)
    (hp : tmps.getD p undef = .pointer (some ⟨g, 0, none⟩)) (hq : tmps.getD q undef = v) (hr : tmps.getD r undef = u) (hg : Row w g cs t)
    (hu : P.underlying ty = some d) (hd : (match d with | .struct _ | .array _ _ => true | _ => false) = true) (hi : (P.info? ty).map (·.size) = some cs.size) :
    (results fn tmps).run P w = .ok (.tuple #[v, .agg cs, u]) w := by
  have hp' : tmps[p]?.getD undef = .pointer (some ⟨g, 0, none⟩) := by simpa using hp
  have hq' : tmps[q]?.getD undef = v := by simpa using hq
  have hr' : tmps[r]?.getD undef = u := by simpa using hr
  simp [results, h, hp', hq', hr', asAddr, run_loadVar_row w g t ty cs (0, 0) d hg hu hd hi]
theorem results_back {P : Program} {fn : Func} {q p : Tmp} {ty : TypeId} (h : fn.results = #[.tmp q, .cell p ty]) (tmps : Array Value) (w : World) (g : Nat) (t : TypeId) (cs : Array Value) (d : TypeDesc) (v : Value)
    (hp : tmps.getD p undef = .pointer (some ⟨g, 0, none⟩)) (hq : tmps.getD q undef = v) (hg : Row w g cs t)
    (hu : P.underlying ty = some d) (hd : (match d with | .struct _ | .array _ _ => true | _ => false) = true) (hi : (P.info? ty).map (·.size) = some cs.size) :
    (results fn tmps).run P w = .ok (.tuple #[v, .agg cs]) w := by
  have hp' : tmps[p]?.getD undef = .pointer (some ⟨g, 0, none⟩) := by simpa using hp
  have hq' : tmps[q]?.getD undef = v := by simpa using hq
  simp [results, h, hp', hq', asAddr, run_loadVar_row w g t ty cs (0, 0) d hg hu hd hi]
theorem size29 : (Try.prog.info? 29).map (·.size) = some 2 := by kernel_rfl

/-- The reference's reader: bits in the row A, at the bit p. -/
structure ML (w : World) (A : Option Addr) (n c : Nat) (l : List UInt8) (p : Nat) : Prop where
  rd : Rd w w.heap.size A n (us (bitsL l))
  cap : A = none → c = 0
  le : p ≤ n
  form : A = none ∨ ∃ b o, A = some ⟨b, o, none⟩
  lc : n ≤ c
theorem ML.len {w : World} {A : Option Addr} {n c : Nat} {l : List UInt8} {p : Nat} (h : ML w A n c l p) : n = 8 * l.length := by have := h.rd.1; rw [us_length, bitsL_length] at this; exact this.symm
theorem ML.still {w w' : World} {A : Option Addr} {n c : Nat} {l : List UInt8} {p : Nat} (h : ML w A n c l p) (hg : w.grownBy w' none) : ML w' A n c l p := ⟨h.rd.next (below_make hg), h.cap, h.le, h.form, h.lc⟩

theorem row2 (w : World) (a b : Array Value) (t s : TypeId) : Row ((w.alloc (.cells a t)).alloc (.cells b s)).drew (w.heap.size + 1) b s := by
  have := Row.new (w.alloc (.cells a t)) b s
  rwa [show (w.alloc (.cells a t)).heap.size = w.heap.size + 1 by simp] at this
theorem grown2 (w : World) (a b : Obj) : w.grownBy ((w.alloc a).alloc b) none := (World.grownBy_alloc w a none).trans (World.grownBy_alloc _ b none)
theorem grown2d (w : World) (a b : Obj) : w.grownBy ((w.alloc a).alloc b).drew none := grown_drew (grown2 w a b)

set_option maxHeartbeats 1000000 in
theorem rfbits_any {A : Option Addr} {n c : Nat} {l : List UInt8} {p : Nat} (k : Int) (w : World) (hM : ML w A n c l p) (hn : n ≤ 8000000) :
    Calls Try.prog 10 #[.agg #[.slice A n c, .int .i64 (p : Int)], .int .i64 k] w fun e w' => e = .returned (.tuple #[.int .u32 (bX (numL l) l.length p k : Int), .agg #[.slice A n c, .int .i64 (bP l.length p k : Int)], .int .i64 (bE l.length p k : Int)]) ∧ w.grownBy w' none := by
  have HM := Lib.hid hM
  have hp : p ≤ 8000000 := by have := hM.le; omega
  clear hM
  by_cases h1 : k < 0 ∨ 32 < k
  · have hx : bX (numL l) l.length p k = 0 := by unfold bX; rw [b_out h1]; rfl
    have hpp : bP l.length p k = p := by unfold bP; rw [b_out h1]; rfl
    rw [hx, hpp, b_out h1]
    clear hx hpp
    rcases h1 with h | h
    · have h1 : decide (k < 0) = true := decide_eq_true h
      go_enter Try.func10, Try.ntmps10
      go_wp2_with fail
      go_region
      go_wp2_with fail
      exact bodyPost_ret (results_mid rfl _ _ (w.heap.size + 1) 29 #[.slice A n c, .int .i64 (p : Int)] _ _ _ rfl rfl rfl (row2 w _ _ _ _) Try.underlying29 rfl size29) rfl ⟨rfl, grown2d w _ _⟩
    · have h1 : decide (k < 0) = false := decide_eq_false (by omega)
      have h2 : decide (32 < k) = true := decide_eq_true h
      go_enter Try.func10, Try.ntmps10
      go_wp2_with fail
      go_region
      go_wp2_with fail
      exact bodyPost_ret (results_mid rfl _ _ (w.heap.size + 1) 29 #[.slice A n c, .int .i64 (p : Int)] _ _ _ rfl rfl rfl (row2 w _ _ _ _) Try.underlying29 rfl size29) rfl ⟨rfl, grown2d w _ _⟩
  · obtain ⟨q, rfl⟩ : ∃ q : Nat, k = (q : Int) := ⟨k.toNat, by omega⟩
    have h3 : decide ((q : Int) < 0) = false := decide_eq_false (by omega)
    have h4 : decide (32 < (q : Int)) = false := decide_eq_false (by omega)
    have hq : q ≤ 32 := by omega
    by_cases h2 : 8 * l.length < p + ((q : Nat) : Int).toNat
    · have hx : bX (numL l) l.length p q = 0 := by unfold bX; rw [b_end h1 h2]; rfl
      have hpp : bP l.length p q = p := by unfold bP; rw [b_end h1 h2]; rfl
      rw [hx, hpp, b_end h1 h2]
      simp only [Int.toNat_natCast] at h2
      have hd : decide ((n : Int) < (p : Int) + (q : Int)) = true := decide_eq_true (by have := HM.out.len; omega)
      clear hx hpp h1 h2
      go_enter Try.func10, Try.ntmps10
      go_wp2_with fail
      go_region
      go_wp2_with fail
      exact bodyPost_ret (results_mid rfl _ _ (w.heap.size + 1) 29 #[.slice A n c, .int .i64 (p : Int)] _ _ _ rfl rfl rfl (row2 w _ _ _ _) Try.underlying29 rfl size29) rfl ⟨rfl, grown2d w _ _⟩
    · obtain ⟨x, HX⟩ : ∃ x, RowKit.Hid (numB (((bitsL l).drop p).take q) = x) := ⟨_, Lib.hid rfl⟩
      have hpq : p + q ≤ n := by have := HM.out.len; simp only [Int.toNat_natCast] at h2; omega
      have hx : bX (numL l) l.length p q = x := by
        unfold bX; rw [b_ok h1 h2, ← HX.out, numB_part (bin_bitsL l) _ _ (by rw [bitsL_length, ← HM.out.len]; exact hpq), numB_bitsL]; rfl
      have hpp : bP l.length p q = p + q := by unfold bP; rw [b_ok h1 h2]; rfl
      rw [hx, hpp, b_ok h1 h2]
      have hd : decide ((n : Int) < (p : Int) + (q : Int)) = false := decide_eq_false (by omega)
      clear hx hpp h1 h2
      have hlc := HM.out.lc
      have hpi : (p : Int) + (q : Int) = ((p + q : Nat) : Int) := by omega
      have HPI := Lib.hid hpi
      clear hpi
      rcases HM.out.form with hA | ⟨b, o, hA⟩
      · subst hA
        have hn0 : n = 0 := by
          rcases Nat.eq_zero_or_pos n with h0 | h0
          · exact h0
          · obtain ⟨_, _, he, _⟩ := HM.out.rd.2 h0; cases he
        subst hn0
        obtain ⟨rfl, rfl⟩ : p = 0 ∧ q = 0 := by omega
        have hcc := HM.out.cap rfl
        subst hcc
        obtain rfl : x = 0 := by rw [← HX.out]; rfl
        go_enter Try.func10, Try.ntmps10
        go_wp2_with fail
        refine (rnumber_any none 0 0 [] _ ⟨rfl, fun h => by omega⟩ Bin.nil (by decide)).mono ?_
        rintro e w3 ⟨rfl, rfl⟩
        rw [show numB [] = 0 from rfl]
        go_wp2_with fail
        go_region
        go_wp2_with fail
        exact bodyPost_ret (results_mid rfl _ _ (w.heap.size + 1) 29 #[.slice none 0 0, .int .i64 0] _ _ _ rfl rfl rfl (row2 w _ _ _ _) Try.underlying29 rfl size29) rfl ⟨rfl, grown2d w _ _⟩
      · subst hA
        by_cases hcf : c = p
        · have hcp : p = c := hcf.symm
          subst hcp
          obtain rfl : q = 0 := by omega
          obtain rfl : x = 0 := by rw [← HX.out]; rfl
          go_enter Try.func10, Try.ntmps10
          go_wp2_with fail
          refine (rnumber_any (some ⟨b, o, none⟩) 0 0 [] _ ⟨rfl, fun h => by omega⟩ Bin.nil (by decide)).mono ?_
          rintro e w3 ⟨rfl, rfl⟩
          rw [show numB [] = 0 from rfl]
          go_wp2_with fail
          go_region
          go_wp2_with fail
          exact bodyPost_ret (results_mid rfl _ _ (w.heap.size + 1) 29 #[.slice (some ⟨b, o, none⟩) n p, .int .i64 (p : Int)] _ _ _ rfl rfl rfl (row2 w _ _ _ _) Try.underlying29 rfl size29) rfl ⟨rfl, grown2d w _ _⟩
        · go_enter Try.func10, Try.ntmps10
          go_wp2_with fail
          have hrd := (HM.out.still (grown2 w (.cells #[.slice (some ⟨b, o, none⟩) n c, .int .i64 (p : Int)] 29) (.cells #[.slice none 0 0, .int .i64 0] 29))).rd.part p q hpq
          rw [show ((us (bitsL l)).drop p).take q = us (((bitsL l).drop p).take q) by simp [us]] at hrd
          refine (rnumber_any _ q _ _ _ hrd (((bin_bitsL l).drop p).take q) hq).mono ?_
          rintro e w3 ⟨rfl, rfl⟩
          rw [HX.out]
          clear hrd
          go_wp2_with fail
          go_region
          go_wp2_with fail
          exact bodyPost_ret (results_mid rfl _ _ (w.heap.size + 1) 29 #[.slice (some ⟨b, o, none⟩) n c, .int .i64 ((p : Int) + (q : Int))] _ _ _ rfl rfl rfl (row2 w _ _ _ _) Try.underlying29 rfl size29) rfl ⟨by rw [HPI.out]; rfl, grown2d w _ _⟩

set_option maxHeartbeats 1000000 in
theorem rfpeek_any {A : Option Addr} {n c : Nat} {l : List UInt8} {p : Nat} (k : Int) (w : World) (hM : ML w A n c l p) (hn : n ≤ 8000000) :
    Calls Try.prog 13 #[.agg #[.slice A n c, .int .i64 (p : Int)], .int .i64 k] w fun e w' => e = .returned (.tuple #[.int .u32 (fld (numL l) p (pN l.length p k) : Int), .int .i64 (pN l.length p k : Int)]) ∧ w.grownBy w' none := by
  have HM := Lib.hid hM
  have hp : p ≤ 8000000 := by have := hM.le; omega
  have HG := Lib.hid (World.grownBy_alloc w (.cells #[.slice A n c, .int .i64 (p : Int)] 29) none)
  clear hM
  by_cases h1 : k < 0 ∨ 32 < k
  · have hpp : pN l.length p k = 0 := by unfold pN; rw [if_pos h1]
    rw [hpp, fld_zero]
    clear hpp
    rcases h1 with h | h
    · have h1 : decide (k < 0) = true := decide_eq_true h
      go_enter Try.func13, Try.ntmps13
      go_wp2_with fail
      go_ret2
      exact ⟨rfl, HG.out⟩
    · have h1 : decide (k < 0) = false := decide_eq_false (by omega)
      have h2 : decide (32 < k) = true := decide_eq_true h
      go_enter Try.func13, Try.ntmps13
      go_wp2_with fail
      go_ret2
      exact ⟨rfl, HG.out⟩
  · obtain ⟨k, rfl⟩ : ∃ q : Nat, k = (q : Int) := ⟨k.toNat, by omega⟩
    have h3 : decide ((k : Int) < 0) = false := decide_eq_false (by omega)
    have h4 : decide (32 < (k : Int)) = false := decide_eq_false (by omega)
    have hk : k ≤ 32 := by omega
    have hpp : pN l.length p k = min k (n - p) := by unfold pN; rw [if_neg h1, HM.out.len]; rfl
    obtain ⟨q, hq⟩ : ∃ q, min k (n - p) = q := ⟨_, rfl⟩
    have hq32 : q ≤ 32 := by omega
    have hle := HM.out.le
    have hpq : p + q ≤ n := by omega
    obtain ⟨x, HX⟩ : ∃ x, RowKit.Hid (numB (((bitsL l).drop p).take q) = x) := ⟨_, Lib.hid rfl⟩
    have hx : fld (numL l) p q = x := by
      rw [← HX.out, numB_part (bin_bitsL l) _ _ (by rw [bitsL_length, ← HM.out.len]; exact hpq), numB_bitsL]; rfl
    rw [hpp, hq, hx]
    clear hpp hx h1
    obtain ⟨d, hd⟩ : ∃ d, n - p = d := ⟨_, rfl⟩
    have hdi : (n : Int) - (p : Int) = (d : Int) := by omega
    rw [hd] at hq
    have hlc := HM.out.lc
    have hdb : d ≤ 8000000 := by omega
    clear hd
    by_cases hkd : k ≤ d
    · obtain rfl : k = q := by omega
      clear hq
      rcases HM.out.form with hA | ⟨b, o, hA⟩
      · subst hA
        have hn0 : n = 0 := by
          rcases Nat.eq_zero_or_pos n with h0 | h0
          · exact h0
          · obtain ⟨_, _, he, _⟩ := HM.out.rd.2 h0; cases he
        subst hn0
        obtain ⟨rfl, rfl⟩ : p = 0 ∧ k = 0 := by omega
        have hcc := HM.out.cap rfl
        subst hcc
        obtain rfl : x = 0 := by rw [← HX.out]; rfl
        go_enter Try.func13, Try.ntmps13
        go_wp2_with fail
        refine (rnumber_any none 0 0 [] _ ⟨rfl, fun h => by omega⟩ Bin.nil (by decide)).mono ?_
        rintro e w3 ⟨rfl, rfl⟩
        rw [show numB [] = 0 from rfl]
        go_wp2_with fail
        go_ret2
        exact ⟨rfl, HG.out⟩
      · subst hA
        by_cases hcf : c = p
        · have hcp : p = c := hcf.symm
          subst hcp
          obtain rfl : k = 0 := by omega
          obtain rfl : x = 0 := by rw [← HX.out]; rfl
          go_enter Try.func13, Try.ntmps13
          go_wp2_with fail
          refine (rnumber_any (some ⟨b, o, none⟩) 0 0 [] _ ⟨rfl, fun h => by omega⟩ Bin.nil (by decide)).mono ?_
          rintro e w3 ⟨rfl, rfl⟩
          rw [show numB [] = 0 from rfl]
          go_wp2_with fail
          go_ret2
          exact ⟨rfl, HG.out⟩
        · go_enter Try.func13, Try.ntmps13
          go_wp2_with fail
          have hrd := (HM.out.still HG.out).rd.part p k hpq
          rw [show ((us (bitsL l)).drop p).take k = us (((bitsL l).drop p).take k) by simp [us]] at hrd
          refine (rnumber_any _ k _ _ _ hrd (((bin_bitsL l).drop p).take k) hq32).mono ?_
          rintro e w3 ⟨rfl, rfl⟩
          rw [HX.out]
          clear hrd
          go_wp2_with fail
          go_ret2
          exact ⟨rfl, HG.out⟩
    · obtain rfl : d = q := by omega
      clear hq
      rcases HM.out.form with hA | ⟨b, o, hA⟩
      · subst hA
        have hn0 : n = 0 := by
          rcases Nat.eq_zero_or_pos n with h0 | h0
          · exact h0
          · obtain ⟨_, _, he, _⟩ := HM.out.rd.2 h0; cases he
        subst hn0
        obtain ⟨rfl, rfl⟩ : p = 0 ∧ d = 0 := by omega
        have hcc := HM.out.cap rfl
        subst hcc
        obtain rfl : x = 0 := by rw [← HX.out]; rfl
        go_enter Try.func13, Try.ntmps13
        go_wp2_with fail
        refine (rnumber_any none 0 0 [] _ ⟨rfl, fun h => by omega⟩ Bin.nil (by decide)).mono ?_
        rintro e w3 ⟨rfl, rfl⟩
        rw [show numB [] = 0 from rfl]
        go_wp2_with fail
        go_ret2
        exact ⟨rfl, HG.out⟩
      · subst hA
        by_cases hcf : c = p
        · have hcp : p = c := hcf.symm
          subst hcp
          obtain rfl : d = 0 := by omega
          obtain rfl : x = 0 := by rw [← HX.out]; rfl
          go_enter Try.func13, Try.ntmps13
          go_wp2_with fail
          refine (rnumber_any (some ⟨b, o, none⟩) 0 0 [] _ ⟨rfl, fun h => by omega⟩ Bin.nil (by decide)).mono ?_
          rintro e w3 ⟨rfl, rfl⟩
          rw [show numB [] = 0 from rfl]
          go_wp2_with fail
          go_ret2
          exact ⟨rfl, HG.out⟩
        · go_enter Try.func13, Try.ntmps13
          go_wp2_with fail
          have hrd := (HM.out.still HG.out).rd.part p d hpq
          rw [show ((us (bitsL l)).drop p).take d = us (((bitsL l).drop p).take d) by simp [us]] at hrd
          refine (rnumber_any _ d _ _ _ hrd (((bin_bitsL l).drop p).take d) hq32).mono ?_
          rintro e w3 ⟨rfl, rfl⟩
          rw [HX.out]
          clear hrd
          go_wp2_with fail
          go_ret2
          exact ⟨rfl, HG.out⟩

set_option maxHeartbeats 1000000 in
theorem rfalign_any {A : Option Addr} {n c : Nat} {l : List UInt8} {p : Nat} (w : World) (hM : ML w A n c l p) (hn : n ≤ 8000000) :
    Calls Try.prog 15 #[.agg #[.slice A n c, .int .i64 (p : Int)]] w fun e w' => e = .returned (.tuple #[.int .i64 (gapR p : Int), .agg #[.slice A n c, .int .i64 ((p + gapR p : Nat) : Int)]]) ∧ w.grownBy w' none := by
  have hp : p ≤ 8000000 := by have := hM.le; omega
  clear hM
  go_enter Try.func15, Try.ntmps15
  go_wp2_with fail
  go_loopw [4] (fun i wr => ∃ j : Nat, j ≤ gapR p ∧ i = .int .i64 j ∧ wr = (w.alloc (.cells #[.slice A n c, .int .i64 ((p + j : Nat) : Int)] 29)).alloc (.cells #[.slice none 0 0, .int .i64 0] 29)) (fun i _ => gapR p - (intOf i).toNat)
  case atStart => exact ⟨0, by omega, rfl, rfl⟩
  case round =>
    obtain ⟨j, hj, rfl, rfl⟩ := hrel
    obtain ⟨s, hs⟩ : ∃ s, p + j = s := ⟨_, rfl⟩
    rw [hs]
    have hg8 : gapR p < 8 := by unfold gapR; omega
    have hsb : s ≤ 9000000 := by omega
    by_cases hjt : j < gapR p
    · have d8 : ((s : Int) % 8 != 0) = true := by rw [bne_iff_ne]; unfold gapR at hjt; omega
      have HE := Lib.hid (show ((p + (j + 1) : Nat) : Int) = (s : Int) + 1 by omega)
      go_wp2_with fail
      go_roundw
      case rel => exact ⟨j + 1, by omega, by go_num, by rw [HE.out]⟩
      case measure => simp [intOf]; omega
    · obtain rfl : j = gapR p := by omega
      have d8 : ((s : Int) % 8 != 0) = false := by rw [bne_eq_false_iff_eq]; unfold gapR at hs; omega
      obtain ⟨r, HG⟩ : ∃ r, RowKit.Hid (gapR p = r) := ⟨_, Lib.hid rfl⟩
      have HS := Lib.hid hs
      clear hs hj hjt hg8
      rw [HG.out] at HS ⊢
      go_wp2_with fail
      go_region
      go_wp2_with fail
      exact bodyPost_ret (results_back rfl _ _ (w.heap.size + 1) 29 #[.slice A n c, .int .i64 (s : Int)] _ _ rfl rfl (row2 w _ _ _ _) Try.underlying29 rfl size29) rfl ⟨by rw [HG.out, HS.out]; rfl, grown2d w _ _⟩
end Go.Proofs.Ytafipnhpoopljaa
