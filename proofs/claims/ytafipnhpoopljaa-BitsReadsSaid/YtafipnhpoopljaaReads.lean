/- Contract of the law BitsReads. -/
import Derived.Test.YtafipnhpoopljaaRfb
import Derived.Test.YtafipnhpoopljaaWrites
import Derived.Deep.QuietTactic
import Derived.BigQuiet
namespace Go.Proofs.Ytafipnhpoopljaa
open Go.RowKit

/-- What both loops keep: the reader, and the reference's reader, at the same bit. -/
structure LR (W : World) (S : List Nat) (g gm : Nat) (A : Option Addr) (n c : Nat) (AL : Option Addr) (nL cL : Nat) (l : List UInt8) (p : Nat) (wr : World) : Prop where
  ra : RA wr S g A n c l p
  row : Row wr gm #[.slice AL nL cL, .int .i64 (p : Int)] 29
  rd : RdS wr S AL nL (us (bitsL l))
  cap : AL = none → cL = 0
  form : AL = none ∨ ∃ b o, AL = some ⟨b, o, none⟩
  lc : nL ≤ cL
  below : Below W.heap.size W wr
  base : W.heap.size ≤ g
  baseM : W.heap.size ≤ gm
  inS : g ∈ S
  inSm : gm ∈ S
section
variable {W : World} {S : List Nat} {g gm : Nat} {A : Option Addr} {n c : Nat} {AL : Option Addr} {nL cL : Nat} {l : List UInt8} {p : Nat} {wr w' : World}
theorem LR.lenL (h : LR W S g gm A n c AL nL cL l p wr) : nL = 8 * n := by have := h.rd.1; rw [us_length, bitsL_length, h.ra.len] at this; exact this.symm
theorem LR.ml (h : LR W S g gm A n c AL nL cL l p wr) : ML wr AL nL cL l p := ⟨h.rd.rd, h.cap, by rw [h.lenL]; exact h.ra.le, h.form, h.lc⟩
theorem LR.still (h : LR W S g gm A n c AL nL cL l p wr) (hg : wr.grownBy w' none) : LR W S g gm A n c AL nL cL l p w' :=
  ⟨h.ra.still hg, h.row.grown hg (by simp), h.rd.grown hg (fun k e => by cases e), h.cap, h.form, h.lc, h.below.trans ((below_make hg).mono h.below.size), h.base, h.baseM, h.inS, h.inSm⟩
theorem LR.ne (h : LR W S g gm A n c AL nL cL l p wr) : some gm ≠ some g := fun e => by
  injection e with e
  have h1 := h.ra.row
  have h2 := h.row
  subst e
  unfold Row at h1 h2
  rw [h1] at h2
  injection h2 with h2
  injection h2 with _ h3
  exact absurd h3 (by decide)
/-- The reader went on. -/
structure LH (W : World) (S : List Nat) (g gm : Nat) (A : Option Addr) (n c : Nat) (AL : Option Addr) (nL cL : Nat) (l : List UInt8) (p q : Nat) (wr : World) : Prop where
  ra : RA wr S g A n c l q
  row : Row wr gm #[.slice AL nL cL, .int .i64 (p : Int)] 29
  rd : RdS wr S AL nL (us (bitsL l))
  cap : AL = none → cL = 0
  form : AL = none ∨ ∃ b o, AL = some ⟨b, o, none⟩
  lc : nL ≤ cL
  below : Below W.heap.size W wr
  base : W.heap.size ≤ g
  baseM : W.heap.size ≤ gm
  inS : g ∈ S
  inSm : gm ∈ S
  ne : gm ≠ g
theorem LR.read (h : LR W S g gm A n c AL nL cL l p wr) {q : Nat} (hr : RA w' S g A n c l q) (hg : wr.grownBy w' (some g)) : LH W S g gm A n c AL nL cL l p q w' :=
  ⟨hr, h.row.grown hg h.ne, h.rd.grown hg (fun k e => by injection e with e; subst e; exact h.inS), h.cap, h.form, h.lc, h.below.grown hg h.below.size (fun k e => by injection e with e; subst e; exact h.base), h.base, h.baseM, h.inS, h.inSm, fun e => h.ne (by rw [e])⟩
/-- The reference's reader went on, too. -/
theorem LH.both {q : Nat} (h : LH W S g gm A n c AL nL cL l p q wr) (hr : Row w' gm #[.slice AL nL cL, .int .i64 (q : Int)] 29) (hg : wr.grownBy w' (some gm)) : LR W S g gm A n c AL nL cL l q w' :=
  ⟨h.ra.grown hg (fun e => by injection e with e; exact h.ne e.symm) (fun k e => by injection e with e; subst e; exact h.inSm), hr, h.rd.grown hg (fun k e => by injection e with e; subst e; exact h.inSm), h.cap, h.form, h.lc, h.below.grown hg h.below.size (fun k e => by injection e with e; subst e; exact h.baseM), h.base, h.baseM, h.inS, h.inSm⟩
theorem LH.still {q : Nat} (h : LH W S g gm A n c AL nL cL l p q wr) (hg : wr.grownBy w' none) : LH W S g gm A n c AL nL cL l p q w' :=
  ⟨h.ra.still hg, h.row.grown hg (by simp), h.rd.grown hg (fun k e => by cases e), h.cap, h.form, h.lc, h.below.trans ((below_make hg).mono h.below.size), h.base, h.baseM, h.inS, h.inSm, h.ne⟩
theorem LH.done (h : LH W S g gm A n c AL nL cL l p p wr) : LR W S g gm A n c AL nL cL l p wr :=
  ⟨h.ra, h.row, h.rd, h.cap, h.form, h.lc, h.below, h.base, h.baseM, h.inS, h.inSm⟩
end

theorem rdS_of {w : World} {B : Nat} {A : Option Addr} {n : Nat} {xs : List Value} {S : List Nat} (h : Rd w B A n xs) (hB : B ≤ w.heap.size) (hS : ∀ b o, A = some ⟨b, o, none⟩ → b < B → b ∉ S) : RdS w S A n xs := by
  refine ⟨h.1, fun hn => ?_⟩
  obtain ⟨b, o, hA, hb, hc⟩ := h.2 hn
  exact ⟨b, o, hA, hS b o hA hb, Nat.lt_of_lt_of_le hb hB, hc⟩
theorem own_one {w : World} {B : Nat} {v : Value} {l : List UInt8} (h : Own w B v l) (g : Nat) : ∃ gO, (∀ k, v.ownBlock = some k → k = gO) ∧ (gO = g ∨ (B ≤ gO ∧ gO < w.heap.size)) := by
  cases hv : v.ownBlock with
  | none => exact ⟨g, fun k e => (by cases e), .inl rfl⟩
  | some b => exact ⟨b, fun k e => (by injection e with e; exact e.symm), .inr (World.ownsRow.lt h b hv)⟩
theorem built29 (A : Option Addr) (n c : Nat) : Try.prog.built 29 [(0, .slice A n c)] = some #[.slice A n c, .int .i64 0] := by kernel_rfl
theorem LR.own {W : World} {S : List Nat} {g gm : Nat} {A : Option Addr} {n c : Nat} {AL : Option Addr} {nL cL : Nat} {l : List UInt8} {p : Nat} {wr w' : World} (h : LR W S g gm A n c AL nL cL l p wr) {r : Option Nat} (hg : wr.grownBy w' r) (h1 : some g ≠ r) (h2 : some gm ≠ r) (h3 : ∀ k, r = some k → k ∈ S) (h4 : ∀ k, r = some k → W.heap.size ≤ k) : LR W S g gm A n c AL nL cL l p w' :=
  ⟨h.ra.grown hg h1 h3, h.row.grown hg h2, h.rd.grown hg h3, h.cap, h.form, h.lc, h.below.grown hg h.below.size h4, h.base, h.baseM, h.inS, h.inSm⟩
/-- A byte of the law's own copy is turned. -/
theorem Own.turned {w : World} {B g n c : Nat} {l : List UInt8} (h : Own w B (.slice (some ⟨g, 0, none⟩) n c) l) (hn : l.length = n) (i : Nat) (z : Int) (y : UInt8) (hz : z = (y.toNat : Int)) :
    Own (w.setCell ⟨g, i, none⟩ (.int .u8 z)) B (.slice (some ⟨g, 0, none⟩) n c) (l.set i y) ∧ w.grownBy (w.setCell ⟨g, i, none⟩ (.int .u8 z)) (some g) := by
  subst hz
  unfold Own at h
  rw [hn] at h
  obtain ⟨h1, h2⟩ := World.ownsRow.stored h i (U8 y)
  refine ⟨?_, h2⟩
  unfold Own
  rw [List.length_set, hn, show us (l.set i y) = (us l).set i (U8 y) by simp [us]]
  exact h1
theorem wrap_i64_nat (n : Nat) (h : n < 9223372036854775808) : IntKind.i64.wrap (n : Int) = (n : Int) := by
  simp [IntKind.wrap, IntKind.bits, IntKind.signed]
  omega
theorem xor255 (x : UInt8) : bits .xor .u8 (x.toNat : Int) 255 = ((x ^^^ 255).toNat : Int) := by
  have := u8_xor_nat x.toNat 255 x.toNat_lt (by decide)
  rw [UInt8.toNat_xor]
  exact this

set_option maxHeartbeats 2000000 in
set_option maxRecDepth 10000 in
theorem reads_any (A0 : Option Addr) (n c0 : Nat) (l : List UInt8) (A1 : Option Addr) (n1 c1 : Nat) (sc : List Raw) (w : World) (hb : Rd w w.heap.size A0 n (us l)) (hcb : A0 = none → c0 = 0) (hr : RdA w w.heap.size A1 n1 sc) :
    Calls Try.prog 3 #[.slice A0 n c0, .slice A1 n1 c1] w fun e w' => e = .returned (.bool true) ∧ Below w.heap.size w w' := by
  have hl : l.length = n := by have := hb.1; rwa [us_length] at this
  have HLb := Lib.hid hl
  have HRb := Lib.hid hb
  have HCb := Lib.hid hcb
  have HL := Lib.hid hr.1
  have HR := Lib.hid hr
  clear hb hcb hr hl
  go_enter Try.func3, Try.ntmps3
  go_wp2_with fail
  refine (alive_true w).mono ?_
  rintro e w1 ⟨rfl, hb1⟩
  have HB1 := Lib.hid hb1
  clear hb1
  by_cases hn : 60 < n
  · have hd : decide (60 < (n : Int)) = true := decide_eq_true (by omega)
    go_wp2_with fail
    go_ret
    exact ⟨rfl, HB1.out⟩
  have hd : decide (60 < (n : Int)) = false := decide_eq_false (by omega)
  by_cases hn1 : 60 < n1
  · have hd1 : decide (60 < (n1 : Int)) = true := decide_eq_true (by omega)
    go_wp2_with fail
    go_ret
    exact ⟨rfl, HB1.out⟩
  have hd1 : decide (60 < (n1 : Int)) = false := decide_eq_false (by omega)
  have hO0 := Own.lit w1 #[] [] 0 rfl rfl (by decide)
  have hB2 : Below w.heap.size w (w1.alloc (.cells #[] 5)) := HB1.out.alloc HB1.out.size _
  have HO0 := Lib.hid hO0
  have HB2 := Lib.hid hB2
  clear hO0 hB2
  go_wp2_with (at_builtin; refine cat8 (w1.alloc (.cells #[] 5)) rfl (.tmp 38) (.tmp 39) rfl w1.heap.size w.heap.size _ [] l A0 n c0 rfl rfl HO0.out (HRb.out.below HB2.out) HCb.out (by simp) (by simp; omega) ?_)
  intro v2 w2 ho2 hg2 hfr
  clear hfr
  have hb3 : Below w.heap.size w w2 := HB2.out.grown hg2 HB2.out.size (fun k hk => Nat.le_trans HB1.out.size (World.ownsRow.lt HO0.out k hk).1)
  change Own w2 w1.heap.size v2 l at ho2
  obtain ⟨A2, c2, hv2⟩ := ho2.slice
  rw [HLb.out] at hv2
  subst hv2
  have HO2 := Lib.hid (And.intro ho2 hb3)
  clear ho2 hg2 hb3 HO0 HB2
  go_wp2_with fail
  refine (newReader_any A2 n c2 l w2 HO2.out.1.rd.2 (noCap HO2.out.1) (by omega)).mono ?_
  rintro e w3 ⟨g, A', c', rfl, hg, hrow, hcap, hrd, hblk, hform, hlc, hg3⟩
  have HN := Lib.hid (And.intro hg (And.intro hrow (And.intro hcap (And.intro hrd (And.intro hblk (And.intro hform (And.intro hlc hg3)))))))
  clear hg hrow hcap hrd hblk hform hlc hg3
  go_wp2_with fail
  refine (rof_any A0 n c0 l w3 ((HRb.out.below (HO2.out.2.trans ((below_make HN.out.2.2.2.2.2.2.2).mono HO2.out.2.size))).more (Nat.le_trans HO2.out.2.size HN.out.2.2.2.2.2.2.2.size)) (by omega)).mono ?_
  rintro e w4 ⟨vL, rfl, hG4⟩
  obtain ⟨nL, hnL⟩ : ∃ nL, (bitsL l).length = nL := ⟨_, rfl⟩
  obtain ⟨AL, cL, hvL⟩ := hG4.own.slice
  rw [hnL] at hvL
  subst hvL
  have hbl := built29 AL nL cL
  obtain ⟨gO, hgO, hgO2⟩ := own_one HO2.out.1 g
  have hg3 := HN.out.2.2.2.2.2.2.2
  have hrowg := HN.out.2.1
  have hrow5 := Row.new w4 #[.slice AL nL cL, .int .i64 0] 29
  have hgw5 := World.grownBy_alloc w4 (.cells #[.slice AL nL cL, .int .i64 0] 29) none
  have hgw : w3.grownBy (w4.alloc (.cells #[.slice AL nL cL, .int .i64 0] 29)) none := (grown_of_below hG4.below).trans hgw5
  have hown5 : Own (w4.alloc (.cells #[.slice AL nL cL, .int .i64 0] 29)) w1.heap.size (.slice A2 n c2) l := World.ownsRow.kept (World.ownsRow.kept HO2.out.1 hg3 (ne_none _)) hgw (ne_none _)
  have hLR : LR w [g, w4.heap.size, gO] g w4.heap.size A' n c' AL nL cL l 0 (w4.alloc (.cells #[.slice AL nL cL, .int .i64 0] 29)) := by
    have s1 := HN.out.1
    have s2 := hrowg.lt
    have s3 := hG4.below.size
    have s4 := HB1.out.size
    have s5 := HO2.out.2.size
    have s6 := hg3.size
    refine ⟨RA.still ⟨hrowg, rdS_of HN.out.2.2.2.1 (Nat.le_of_lt s2) ?_, HN.out.2.2.1, by omega, HN.out.2.2.2.2.2.1, HN.out.2.2.2.2.2.2.1⟩ hgw, hrow5, (rdS_of (S := [g, w4.heap.size, gO]) hG4.own.rd.2 (Nat.le_refl _) ?_).grown hgw5 (fun k e => by cases e), noCap hG4.own, own_form hG4.own, own_le hG4.own, ?_, by omega, by omega, by simp, by simp⟩
    · intro b o hA hb hS
      have h1 := HN.out.2.2.2.2.1 b o hA
      simp only [List.mem_cons, List.not_mem_nil, or_false] at hS
      omega
    · intro b o hA hb hS
      have h1 := (World.ownsRow.lt hG4.own b (by rw [hA]; rfl)).1
      simp only [List.mem_cons, List.not_mem_nil, or_false] at hS
      omega
    · exact (HO2.out.2.trans ((below_make (hg3.trans hgw)).mono HO2.out.2.size))
  have hgOS : ∀ k, (Value.slice A2 n c2).ownBlock = some k → k ∈ [g, w4.heap.size, gO] := fun k e => by rw [hgO k e]; simp
  have hgOn : ∀ k, (Value.slice A2 n c2).ownBlock = some k → some g ≠ some k ∧ some w4.heap.size ≠ some k ∧ w.heap.size ≤ k := fun k e => by
    have h1 := World.ownsRow.lt HO2.out.1 k e
    have h2 := HN.out.1
    have h3 := hg3.size
    have h4 := hG4.below.size
    have h5 := HB1.out.size
    refine ⟨?_, ?_, by omega⟩
    · simp; omega
    · simp; omega
  have HLR := Lib.hid (And.intro hLR (And.intro hown5 (And.intro hgOS hgOn)))
  clear hgO hgO2 hg3 hrowg hrow5 hgw5 hgw hown5 hLR hgOS hgOn hG4 hnL HN HO2
  go_wp2_with fail
  obtain ⟨gm, hgm⟩ : ∃ gm, w4.heap.size = gm := ⟨_, rfl⟩
  rw [hgm] at HLR ⊢
  clear hgm
  generalize w4.alloc (.cells #[.slice AL nL cL, .int .i64 0] 29) = w5 at HLR ⊢
  obtain ⟨SS, hSS⟩ : ∃ SS, [g, gm, gO] = SS := ⟨_, rfl⟩
  rw [hSS] at HLR
  clear hSS hbl
  go_loopw [48] (fun i wr => ∃ (k : Nat) (L' : List UInt8), k ≤ n ∧ i = .int .i64 k ∧ L'.length = n ∧ Own wr w1.heap.size (.slice A2 n c2) L' ∧ LR w SS g gm A' n c' AL nL cL l 0 wr) (fun i _ => n - (intOf i).toNat)
  case atStart => exact ⟨0, l, by omega, rfl, HLb.out, HLR.out.2.1, HLR.out.1⟩
  case round =>
    obtain ⟨k, L', hk, rfl, hL', hown, hI⟩ := hrel
    by_cases hlt : k < n
    · have hdk : decide ((k : Int) < (n : Int)) = true := decide_eq_true (by omega)
      obtain ⟨bo, co, x, hv, hx, _⟩ := hown.at8 (k := k) (by omega)
      rw [hL'] at hv
      injection hv with e1 e2 e3
      subst e1
      obtain rfl := e3
      have hown' := hown
      unfold Own at hown'
      rw [hL'] at hown'
      have hc := World.ownsRow.cellAt hown' k (by omega)
      have hf := World.ownsRow.frozenAt hown' k
      rw [show (us L')[k]? = some (.int .u8 (x.toNat : Int)) by simp [us, hx]] at hc
      have hst := Own.turned hown hL' k _ (x ^^^ 255) (xor255 x)
      have hbk := HLR.out.2.2.2 bo rfl
      have HS := Lib.hid (And.intro hst.1 (hI.own hst.2 hbk.1 hbk.2.1 (fun q e => HLR.out.2.2.1 q (by rw [← e]; rfl)) (fun q e => by injection e with e; subst e; exact hbk.2.2)))
      have HLL := Lib.hid hL'
      clear hown hown' hst hbk hI hx hL'
      go_wp2_with fail
      go_roundw
      case rel => exact ⟨k + 1, _, by omega, by go_num, by rw [List.length_set]; exact HLL.out, HS.out.1, HS.out.2⟩
      case measure => simp [intOf]; omega
    · have hdk : decide ((k : Int) < (n : Int)) = false := decide_eq_false (by omega)
      have HI := Lib.hid hI
      clear hI hown hL' HLR
      go_wp2_with fail
      clear hdk hlt hk
      go_loopw [60] (fun i wq => ∃ (k p : Nat), k ≤ n1 ∧ i = .int .i64 k ∧ LR w SS g gm A' n c' AL nL cL l p wq) (fun i _ => n1 - (intOf i).toNat)
      case atStart => exact ⟨0, 0, by omega, rfl, HI.out⟩
      case round =>
        clear HI
        obtain ⟨k, p, hk, rfl, hI⟩ := hrel
        have HI := Lib.hid hI
        clear hI
        by_cases hlt : k < n1
        · have d0 : decide ((k : Int) < (n1 : Int)) = true := decide_eq_true (by omega)
          obtain ⟨ob, off, a, rfl, hob, ha, e0, e1, e2, e3⟩ := (HR.out.under HI.out.below).at4 hlt
          have ek := kd_eq' a.k
          clear ha
          go_upto_region 21 with fail
          have hrow := Row.new wr #[.int .i64 a.k, .int .i64 a.n, .int .u32 (a.x : Int), .slice a.A a.m a.c] 32
          have hI4 := HI.out.still (World.grownBy_alloc wr (.cells #[.int .i64 a.k, .int .i64 a.n, .int .u32 (a.x : Int), .slice a.A a.m a.c] 32) none)
          generalize wr.alloc (.cells #[.int .i64 a.k, .int .i64 a.n, .int .u32 (a.x : Int), .slice a.A a.m a.c] 32) = w6 at hrow hI4 ⊢
          generalize wr.heap.size = H at hrow ⊢
          have hc1 := hrow.cell 1
          change w6.cell? ⟨H, 1, none⟩ = some (.int .i64 a.n) at hc1
          have HROW := Lib.hid hrow
          have H6 := Lib.hid hI4
          clear e0 e1 e2 e3 HI hrow hI4 ek hob
          have hkd := kd_lt a.k
          generalize kd a.k = q at hkd ⊢
          have hm0 : w6.cell? ⟨gm, 0, none⟩ = some (.slice AL nL cL) := H6.out.row.cell 0
          have hm1 : w6.cell? ⟨gm, 1, none⟩ = some (.int .i64 (p : Int)) := H6.out.row.cell 1
          have hnLb : nL ≤ 1000 := by have := H6.out.lenL; omega
          obtain rfl | rfl | rfl | rfl : q = 0 ∨ q = 1 ∨ q = 2 ∨ q = 3 := by omega
          · rw [show ((0 : Nat) : Int) = 0 from rfl]
            go_wp2_with fail
            refine (rfbits_any a.n w6 H6.out.ml (by omega)).mono ?_
            rintro e w7 ⟨rfl, hg7⟩
            rw [HLb.out]
            obtain ⟨X, HX⟩ : ∃ X, RowKit.Hid (bX (numL l) n p a.n = X) := ⟨_, Lib.hid rfl⟩
            obtain ⟨E, HE⟩ : ∃ E, RowKit.Hid (bE n p a.n = E) := ⟨_, Lib.hid rfl⟩
            obtain ⟨P, HP⟩ : ∃ P, RowKit.Hid (bP n p a.n = P) := ⟨_, Lib.hid rfl⟩
            rw [HX.out, HE.out, HP.out]
            have hrow7 := HROW.out.grown hg7 (by simp)
            have hI7 := H6.out.still hg7
            have HF7 := Lib.hid (And.intro hI7 hrow7)
            clear hm0 hm1 hc1 H6 HROW hg7 hrow7 hI7
            go_upto_region 23 with fail
            have hgA := World.grownBy_alloc w7 (.cells #[.slice AL nL cL, .int .i64 (P : Int)] 29) none
            have HF8 := Lib.hid (And.intro (HF7.out.1.still hgA) (And.intro (HF7.out.2.grown hgA (by simp)) (And.intro (Row.new w7 #[.slice AL nL cL, .int .i64 (P : Int)] 29) HF7.out.1.ra.row.lt)))
            clear hgA HF7
            generalize w7.alloc (.cells #[.slice AL nL cL, .int .i64 (P : Int)] 29) = w8 at HF8 ⊢
            generalize w7.heap.size = J at HF8 ⊢
            have hc1 : w8.cell? ⟨H, 1, none⟩ = some (.int .i64 a.n) := HF8.out.2.1.cell 1
            go_wp2_with fail
            refine (rbits_any g a.n w8 HF8.out.1.ra HF8.out.1.inS (by omega)).mono ?_
            rintro e w9 ⟨rfl, hra9, hg9⟩
            rw [HX.out, HE.out]
            rw [HP.out] at hra9
            have hI9 := HF8.out.1.read hra9 hg9
            have hJ9 := HF8.out.2.2.1.grown hg9 (by simp; have := HF8.out.2.2.2; omega)
            have HF9 := Lib.hid (And.intro hI9 hJ9)
            clear hc1 HF8 hra9 hg9 hI9 hJ9
            have m0 : w9.cell? ⟨gm, 0, none⟩ = some (.slice AL nL cL) := HF9.out.1.row.cell 0
            have m1 : w9.cell? ⟨gm, 1, none⟩ = some (.int .i64 (p : Int)) := HF9.out.1.row.cell 1
            have t0 := HF9.out.1.row.thawed 0
            have t1 := HF9.out.1.row.thawed 1
            have j0 : w9.cell? ⟨J, 0, none⟩ = some (.slice AL nL cL) := HF9.out.2.cell 0
            have j1 : w9.cell? ⟨J, 1, none⟩ = some (.int .i64 (P : Int)) := HF9.out.2.cell 1
            go_wp2_with fail
            go_region_with (go_at_call 12; refine (num_any E _).mono ?_; rintro e w10 ⟨rfl, rfl⟩)
            all_goals
              have hI10 : LR w SS g gm A' n c' AL nL cL l P ((w9.setCell ⟨gm, 0, none⟩ (.slice AL nL cL)).setCell ⟨gm, 1, none⟩ (.int .i64 (P : Int))).drew := (HF9.out.1.both (w' := (w9.setCell ⟨gm, 0, none⟩ (.slice AL nL cL)).setCell ⟨gm, 1, none⟩ (.int .i64 (P : Int))) ((HF9.out.1.row.set 0 _).set 1 _) ((grown_setCell w9 gm 0 _).trans (grown_setCell _ gm 1 _))).still (grown_drewN _ 1)
              have H10 := Lib.hid hI10
              clear hI10 HF9 m0 m1 t0 t1 j0 j1
              generalize ((w9.setCell ⟨gm, 0, none⟩ (.slice AL nL cL)).setCell ⟨gm, 1, none⟩ (.int .i64 (P : Int))).drew = w10 at H10 ⊢
              obtain ⟨z, hz⟩ : ∃ z, 8 * n - P = z := ⟨_, rfl⟩
              have hzi : (nL : Int) - (P : Int) = (z : Int) := by have h1 := H10.out.lenL; have h2 := H10.out.ra.le; omega
              have hzb : z ≤ 1000 := by omega
              have hzw := wrap_i64_nat z (by omega)
              have hPb : P ≤ 1000 := by have := H10.out.ra.le; omega
              have HAT := Lib.hid (fun m => at_any g (w10.drewN m) (H10.out.ra.drewN m))
              have HLF := Lib.hid (fun m => left_any g (w10.drewN m) (H10.out.ra.drewN m) (by omega))
              rw [hz] at HLF
              have m0 : w10.cell? ⟨gm, 0, none⟩ = some (.slice AL nL cL) := H10.out.row.cell 0
              have m1 : w10.cell? ⟨gm, 1, none⟩ = some (.int .i64 (P : Int)) := H10.out.row.cell 1
              go_wp2_with fail
              go_quiet (first | (go_at_call 20; exact Calls.quiet_of_same (HAT.out _)) | (go_at_call 21; exact Calls.quiet_of (HLF.out _)))
              have H11 := Lib.hid (H10.out.still (grown_drewN w10 nq))
              clear H10 m0 m1 HAT HLF hz
              generalize w10.drewN nq = w11 at H11 ⊢
              go_wp2_with fail
              go_roundw
              case rel => exact ⟨k + 1, P, by omega, by go_num, H11.out⟩
              case measure => simp [intOf]; omega
          · rw [show ((1 : Nat) : Int) = 1 from rfl]
            go_wp2_with fail
            refine (rfpeek_any a.n w6 H6.out.ml (by omega)).mono ?_
            rintro e w7 ⟨rfl, hg7⟩
            rw [HLb.out]
            obtain ⟨M, HM⟩ : ∃ M, RowKit.Hid (pN n p a.n = M) := ⟨_, Lib.hid rfl⟩
            rw [HM.out]
            obtain ⟨X, HX⟩ : ∃ X, RowKit.Hid (fld (numL l) p M = X) := ⟨_, Lib.hid rfl⟩
            rw [HX.out]
            have hrow7 := HROW.out.grown hg7 (by simp)
            have hI7 := H6.out.still hg7
            have HF7 := Lib.hid hI7
            have hc1 : w7.cell? ⟨H, 1, none⟩ = some (.int .i64 a.n) := hrow7.cell 1
            clear hm0 hm1 H6 HROW hg7 hrow7 hI7
            go_wp2_with fail
            refine (rpeek_any g a.n w7 HF7.out.ra (by omega)).mono ?_
            rintro e w8 ⟨rfl, m8, rfl⟩
            rw [HM.out, HX.out]
            have H10 := Lib.hid (HF7.out.still (grown_drewN w7 m8))
            clear hc1 HF7
            generalize w7.drewN m8 = w10 at H10 ⊢
            obtain ⟨z, hz⟩ : ∃ z, 8 * n - p = z := ⟨_, rfl⟩
            have hzi : (nL : Int) - (p : Int) = (z : Int) := by have h1 := H10.out.lenL; have h2 := H10.out.ra.le; omega
            have hzb : z ≤ 1000 := by omega
            have hzw := wrap_i64_nat z (by omega)
            have hPb : p ≤ 1000 := by have := H10.out.ra.le; omega
            have HAT := Lib.hid (fun m => at_any g (w10.drewN m) (H10.out.ra.drewN m))
            have HLF := Lib.hid (fun m => left_any g (w10.drewN m) (H10.out.ra.drewN m) (by omega))
            rw [hz] at HLF
            have m0 : w10.cell? ⟨gm, 0, none⟩ = some (.slice AL nL cL) := H10.out.row.cell 0
            have m1 : w10.cell? ⟨gm, 1, none⟩ = some (.int .i64 (p : Int)) := H10.out.row.cell 1
            go_wp2_with fail
            go_quiet (first | (go_at_call 20; exact Calls.quiet_of_same (HAT.out _)) | (go_at_call 21; exact Calls.quiet_of (HLF.out _)))
            have H11 := Lib.hid (H10.out.still (grown_drewN w10 nq))
            clear H10 m0 m1 HAT HLF hz
            generalize w10.drewN nq = w11 at H11 ⊢
            go_wp2_with fail
            go_roundw
            case rel => exact ⟨k + 1, p, by omega, by go_num, H11.out⟩
            case measure => simp [intOf]; omega
          · rw [show ((2 : Nat) : Int) = 2 from rfl]
            go_wp2_with fail
            refine (rfalign_any w6 H6.out.ml (by omega)).mono ?_
            rintro e w7 ⟨rfl, hg7⟩
            obtain ⟨G, HG⟩ : ∃ G, RowKit.Hid (gapR p = G) := ⟨_, Lib.hid rfl⟩
            rw [HG.out]
            obtain ⟨P, HP⟩ : ∃ P, RowKit.Hid (p + G = P) := ⟨_, Lib.hid rfl⟩
            rw [HP.out]
            have hI7 := H6.out.still hg7
            have HF7 := Lib.hid hI7
            clear hm0 hm1 hc1 H6 HROW hg7 hI7
            go_upto_region 31 with fail
            have hgA := World.grownBy_alloc w7 (.cells #[.slice AL nL cL, .int .i64 (P : Int)] 29) none
            have HF8 := Lib.hid (And.intro (HF7.out.still hgA) (And.intro (Row.new w7 #[.slice AL nL cL, .int .i64 (P : Int)] 29) HF7.out.ra.row.lt))
            clear hgA HF7
            generalize w7.alloc (.cells #[.slice AL nL cL, .int .i64 (P : Int)] 29) = w8 at HF8 ⊢
            generalize w7.heap.size = J at HF8 ⊢
            go_wp2_with fail
            refine (ralign_any g w8 HF8.out.1.ra HF8.out.1.inS (by omega)).mono ?_
            rintro e w9 ⟨rfl, hra9, hg9⟩
            rw [HG.out]
            rw [HG.out, HP.out] at hra9
            have hI9 := HF8.out.1.read hra9 hg9
            have hJ9 := HF8.out.2.1.grown hg9 (by simp; have := HF8.out.2.2; omega)
            have HF9 := Lib.hid (And.intro hI9 hJ9)
            clear HF8 hra9 hg9 hI9 hJ9
            have m0 : w9.cell? ⟨gm, 0, none⟩ = some (.slice AL nL cL) := HF9.out.1.row.cell 0
            have m1 : w9.cell? ⟨gm, 1, none⟩ = some (.int .i64 (p : Int)) := HF9.out.1.row.cell 1
            have t0 := HF9.out.1.row.thawed 0
            have t1 := HF9.out.1.row.thawed 1
            have j0 : w9.cell? ⟨J, 0, none⟩ = some (.slice AL nL cL) := HF9.out.2.cell 0
            have j1 : w9.cell? ⟨J, 1, none⟩ = some (.int .i64 (P : Int)) := HF9.out.2.cell 1
            go_upto_region 33 with fail
            have hI10 : LR w SS g gm A' n c' AL nL cL l P ((w9.setCell ⟨gm, 0, none⟩ (.slice AL nL cL)).setCell ⟨gm, 1, none⟩ (.int .i64 (P : Int))) := HF9.out.1.both ((HF9.out.1.row.set 0 _).set 1 _) ((grown_setCell w9 gm 0 _).trans (grown_setCell _ gm 1 _))
            have H10 := Lib.hid hI10
            clear hI10 HF9 m0 m1 t0 t1 j0 j1
            generalize (w9.setCell ⟨gm, 0, none⟩ (.slice AL nL cL)).setCell ⟨gm, 1, none⟩ (.int .i64 (P : Int)) = w10 at H10 ⊢
            obtain ⟨z, hz⟩ : ∃ z, 8 * n - P = z := ⟨_, rfl⟩
            have hzi : (nL : Int) - (P : Int) = (z : Int) := by have h1 := H10.out.lenL; have h2 := H10.out.ra.le; omega
            have hzb : z ≤ 1000 := by omega
            have hzw := wrap_i64_nat z (by omega)
            have hPb : P ≤ 1000 := by have := H10.out.ra.le; omega
            have HAT := Lib.hid (fun m => at_any g (w10.drewN m) (H10.out.ra.drewN m))
            have HLF := Lib.hid (fun m => left_any g (w10.drewN m) (H10.out.ra.drewN m) (by omega))
            rw [hz] at HLF
            have m0 : w10.cell? ⟨gm, 0, none⟩ = some (.slice AL nL cL) := H10.out.row.cell 0
            have m1 : w10.cell? ⟨gm, 1, none⟩ = some (.int .i64 (P : Int)) := H10.out.row.cell 1
            go_wp2_with fail
            go_quiet (first | (go_at_call 20; exact Calls.quiet_of_same (HAT.out _)) | (go_at_call 21; exact Calls.quiet_of (HLF.out _)))
            have H11 := Lib.hid (H10.out.still (grown_drewN w10 nq))
            clear H10 m0 m1 HAT HLF hz
            generalize w10.drewN nq = w11 at H11 ⊢
            go_wp2_with fail
            go_roundw
            case rel => exact ⟨k + 1, P, by omega, by go_num, H11.out⟩
            case measure => simp [intOf]; omega
          · rw [show ((3 : Nat) : Int) = 3 from rfl]
            go_wp2_with fail
            refine (rfbytes_any a.n w6 H6.out.ml (by omega)).mono ?_
            rintro e w7 ⟨u, rfl, ho7, hg7⟩
            rw [HLb.out]
            obtain ⟨E, HE⟩ : ∃ E, RowKit.Hid (yE n p a.n = E) := ⟨_, Lib.hid rfl⟩
            obtain ⟨P, HP⟩ : ∃ P, RowKit.Hid (yP n p a.n = P) := ⟨_, Lib.hid rfl⟩
            obtain ⟨Y, HY⟩ : ∃ Y, RowKit.Hid (yB l p a.n = Y) := ⟨_, Lib.hid rfl⟩
            rw [HE.out, HP.out]
            rw [HY.out] at ho7
            obtain ⟨nY, hnY⟩ : ∃ nY, Y.length = nY := ⟨_, rfl⟩
            obtain ⟨Au, cu, hu⟩ := ho7.slice
            rw [hnY] at hu
            subst hu
            have hrow7 := HROW.out.grown hg7 (by simp)
            have hI7 := H6.out.still hg7
            have HF7 := Lib.hid (And.intro hI7 (And.intro hrow7 (And.intro ho7 H6.out.ra.row.lt)))
            clear hm0 hm1 hc1 H6 HROW hg7 hrow7 hI7 ho7
            go_upto_region 19 with fail
            have hgA := World.grownBy_alloc w7 (.cells #[.slice AL nL cL, .int .i64 (P : Int)] 29) none
            have HF8 := Lib.hid (And.intro (HF7.out.1.still hgA) (And.intro (HF7.out.2.1.grown hgA (by simp)) (And.intro (Row.new w7 #[.slice AL nL cL, .int .i64 (P : Int)] 29) (And.intro HF7.out.1.ra.row.lt (show Own (w7.alloc (.cells #[.slice AL nL cL, .int .i64 (P : Int)] 29)) w6.heap.size (.slice Au nY cu) Y from World.ownsRow.kept HF7.out.2.2.1 hgA (ne_none _))))))
            have hun : (Value.slice Au nY cu).ownBlock = none ∨ (Value.slice Au nY cu).ownBlock ≠ some g := .inr (fun e => by have h1 := (World.ownsRow.lt HF7.out.2.2.1 g e).1; have h2 := HF7.out.2.2.2; omega)
            have HUN := Lib.hid hun
            clear hgA HF7 hun
            generalize w7.alloc (.cells #[.slice AL nL cL, .int .i64 (P : Int)] 29) = w8 at HF8 ⊢
            generalize w7.heap.size = J at HF8 ⊢
            have hc1 : w8.cell? ⟨H, 1, none⟩ = some (.int .i64 a.n) := HF8.out.2.1.cell 1
            go_wp2_with fail
            refine (rbytes_any g a.n w8 HF8.out.1.ra HF8.out.1.inS (by omega)).mono ?_
            rintro e w9 ⟨u9, rfl, ho9, hra9, hg9⟩
            rw [HE.out]
            rw [HP.out] at hra9
            rw [HY.out] at ho9
            obtain ⟨A9, c9, hu9⟩ := ho9.slice
            rw [hnY] at hu9
            subst hu9
            have hI9 := HF8.out.1.read hra9 hg9
            have hJ9 := HF8.out.2.2.1.grown hg9 (by simp; have := HF8.out.2.2.2.1; omega)
            have hOu := World.ownsRow.kept HF8.out.2.2.2.2 hg9 HUN.out
            have hOu : Own w9 w6.heap.size (.slice Au nY cu) Y := hOu
            have HF9 := Lib.hid (And.intro hI9 (And.intro hJ9 (And.intro hOu.rd.2 (And.intro ho9.rd.2 (And.intro (own_notRow hOu hI9.row (by decide)) (own_notRow ho9 hI9.row (by decide)))))))
            clear hc1 HF8 hra9 hg9 hI9 hJ9 hOu ho9
            have m0 : w9.cell? ⟨gm, 0, none⟩ = some (.slice AL nL cL) := HF9.out.1.row.cell 0
            have m1 : w9.cell? ⟨gm, 1, none⟩ = some (.int .i64 (p : Int)) := HF9.out.1.row.cell 1
            have t0 := HF9.out.1.row.thawed 0
            have t1 := HF9.out.1.row.thawed 1
            have j0 : w9.cell? ⟨J, 0, none⟩ = some (.slice AL nL cL) := HF9.out.2.1.cell 0
            have j1 : w9.cell? ⟨J, 1, none⟩ = some (.int .i64 (P : Int)) := HF9.out.2.1.cell 1
            have HSM := Lib.hid (same_any A9 nY c9 Au nY cu Y w9.drew HF9.out.2.2.2.1 HF9.out.2.2.1)
            go_wp2_with fail
            go_region_with (first | (go_at_call 19; refine HSM.out.mono ?_; rintro e w10 ⟨rfl, rfl⟩) | (go_at_call 12; refine (num_any E _).mono ?_; rintro e w10 ⟨rfl, rfl⟩))
            all_goals
              have hI10 : LR w SS g gm A' n c' AL nL cL l P ((w9.setCell ⟨gm, 0, none⟩ (.slice AL nL cL)).setCell ⟨gm, 1, none⟩ (.int .i64 (P : Int))).drew := (HF9.out.1.both (w' := (w9.setCell ⟨gm, 0, none⟩ (.slice AL nL cL)).setCell ⟨gm, 1, none⟩ (.int .i64 (P : Int))) ((HF9.out.1.row.set 0 _).set 1 _) ((grown_setCell w9 gm 0 _).trans (grown_setCell _ gm 1 _))).still (grown_drewN _ 1)
              have H10 := Lib.hid hI10
              clear hI10 HF9 m0 m1 t0 t1 j0 j1 HSM
              generalize ((w9.setCell ⟨gm, 0, none⟩ (.slice AL nL cL)).setCell ⟨gm, 1, none⟩ (.int .i64 (P : Int))).drew = w10 at H10 ⊢
              obtain ⟨z, hz⟩ : ∃ z, 8 * n - P = z := ⟨_, rfl⟩
              have hzi : (nL : Int) - (P : Int) = (z : Int) := by have h1 := H10.out.lenL; have h2 := H10.out.ra.le; omega
              have hzb : z ≤ 1000 := by omega
              have hzw := wrap_i64_nat z (by omega)
              have hPb : P ≤ 1000 := by have := H10.out.ra.le; omega
              have HAT := Lib.hid (fun m => at_any g (w10.drewN m) (H10.out.ra.drewN m))
              have HLF := Lib.hid (fun m => left_any g (w10.drewN m) (H10.out.ra.drewN m) (by omega))
              rw [hz] at HLF
              have m0 : w10.cell? ⟨gm, 0, none⟩ = some (.slice AL nL cL) := H10.out.row.cell 0
              have m1 : w10.cell? ⟨gm, 1, none⟩ = some (.int .i64 (P : Int)) := H10.out.row.cell 1
              go_wp2_with fail
              go_quiet (first | (go_at_call 20; exact Calls.quiet_of_same (HAT.out _)) | (go_at_call 21; exact Calls.quiet_of (HLF.out _)))
              have H11 := Lib.hid (H10.out.still (grown_drewN w10 nq))
              clear H10 m0 m1 HAT HLF hz
              generalize w10.drewN nq = w11 at H11 ⊢
              go_wp2_with fail
              go_roundw
              case rel => exact ⟨k + 1, P, by omega, by go_num, H11.out⟩
              case measure => simp [intOf]; omega
        · have d0 : decide ((k : Int) < (n1 : Int)) = false := decide_eq_false (by omega)
          go_wp2_with fail
          go_ret
          exact ⟨rfl, HI.out.below⟩
end Go.Proofs.Ytafipnhpoopljaa
