/- Contract of toldCodes. -/
import Derived.Test.YtjipjclbhdgkoaaDoorMle
namespace Go.Proofs.YtjipjclbhdgkoaaDoor
open Go.RowKit

variable {g r H : Nat} {A : Option Addr} {n c : Nat} {l : List UInt8} {lim : Nat} {v : Value} {s : Sx}
theorem is_take (ll : List Nat) (k : Nat) : (is (ints64 ll)).take k = is (ints64 (ll.take k)) := by simp [is, ints64, List.map_take]
theorem is_drop (ll : List Nat) (k : Nat) : (is (ints64 ll)).drop k = is (ints64 (ll.drop k)) := by simp [is, ints64, List.map_drop]
theorem is_at {ll : List Nat} {k z : Nat} (h : k < ll.length) (hz : ll.getD k 0 = z) : (is (ints64 ll))[k]? = some (.int .i64 (z : Int)) := by
  rw [List.getD_eq_getElem?_getD, List.getElem?_eq_getElem h] at hz
  subst hz
  simp only [is, ints64, List.getElem?_map, List.getElem?_eq_getElem h, Option.map_some, Option.getD_some]
  rfl
theorem low_take {ll : List Nat} (h : Low ll) (k : Nat) : Low (ll.take k) := fun x hx => h x (List.mem_of_mem_take hx)
theorem low_drop {ll : List Nat} (h : Low ll) (k : Nat) : Low (ll.drop k) := fun x hx => h x (List.mem_of_mem_drop hx)
/-- A code in the blocks from lo to hi. -/
structure CL (w : World) (g : Nat) (v : Value) (lo hi a : Nat) (ls : List Nat) : Prop where
  hl : HL w lo hi a ls
  g : g < lo
  hi : hi ≤ w.heap.size
  own : ∀ k, v.ownBlock = some k → k < lo
theorem CL.grown {w w' : World} {g : Nat} {v : Value} {lo hi a : Nat} {ls : List Nat} {q : Option Nat} (h : CL w g v lo hi a ls) (hg : w.grownBy w' q) (hq : ∀ b, q = some b → b < lo ∨ hi ≤ b) : CL w' g v lo hi a ls :=
  ⟨h.hl.keep fun k k1 k2 => hg.block k (Nat.lt_of_lt_of_le k2 h.hi) (fun e => by have := hq k e.symm; omega), h.g, Nat.le_trans h.hi hg.size, h.own⟩
theorem CL.cdh {w : World} {g : Nat} {v : Value} {lo hi a : Nat} {ls : List Nat} (h : CL w g v lo hi a ls) : CDH w w.heap.size g v a ls := ⟨lo, hi, h.hl, h.g, h.hi, fun k hk => .inl (h.own k hk)⟩
theorem MS.cl {w w' : World} (h : MS w g r H A n c l lim v s) {a : Nat} {ls : List Nat} (hl : HL w' w.heap.size w'.heap.size a ls) : CL w' g v w.heap.size w'.heap.size a ls :=
  ⟨hl, h.lt, Nat.le_refl _, fun _ hk => (h.ownLt hk).2⟩
/-- The result's block. -/
def RB (w : World) (rb : Nat) (v : Value) : Prop := Row w rb #[.pointer none, .pointer none] 45 ∧ some rb ≠ v.ownBlock
theorem RB.moves {w w' : World} {rb g r : Nat} {v v' : Value} (h : RB w rb v) (hm : Moves w w' g r v v') (h1 : rb ≠ g) (h2 : rb ≠ r) : RB w' rb v' :=
  ⟨by unfold Row; rw [hm.block rb h.1.lt h1 h2 h.2]; exact h.1, hm.apart h.1.lt h.2⟩
theorem RB.grown {w w' : World} {rb : Nat} {v : Value} {q : Option Nat} (h : RB w rb v) (hg : w.grownBy w' q) (hq : some rb ≠ q) : RB w' rb v := ⟨h.1.grown hg hq, h.2⟩
def toldAns (g : Nat) (p : List Nat × List Nat) (e : Ending) (w' : World) (v' : Value) : Prop :=
  ∃ a b, e = .returned (.agg #[.pointer (some ⟨a, 0, none⟩), .pointer (some ⟨b, 0, none⟩)]) ∧ CDH w' w'.heap.size g v' a p.1 ∧ CDH w' w'.heap.size g v' b p.2
/-- What is behind the helpers' code. -/
def toldK (a b : Nat) (h : List Nat) : X (List Nat × List Nat) :=
  bindX (lensX h (257 + a + (1 + b)) (257 + a + (1 + b) + 1) []) fun l =>
    if right (l.take (257 + a)) false = false ∨ right (l.drop (257 + a)) true = false ∨ l.getD 256 0 = 0 then failX 2 else pureX (l.take (257 + a), l.drop (257 + a))
theorem told_eq : toldX = bindX (numX 5) fun a => bindX (numX 5) fun b => bindX (numX 4) fun c => if 286 < 257 + a ∨ 30 < 1 + b then failX 2 else bindX (helperX (4 + c)) (toldK a b) := by
  unfold toldX helperX
  congr 1; funext a; congr 1; funext b; congr 1; funext c
  by_cases h : 286 < 257 + a ∨ 30 < 1 + b
  · rw [if_pos h, if_pos h]
  · rw [if_neg h, if_neg h]
    funext L lim s
    show bindX _ _ L lim s = bindX (bindX _ _) _ L lim s
    unfold bindX
    cases helpX (4 + c) 0 (List.replicate 19 0) L lim s with
    | error e => rfl
    | ok q =>
      obtain ⟨h, s1⟩ := q
      simp only [helperK]
      cases hr : right h false with
      | false => rfl
      | true => rfl

set_option maxHeartbeats 4000000 in
set_option maxRecDepth 20000 in
theorem told_any (w : World) (hm : MS w g r H A n c l lim v s) :
    Calls Tryd.prog 41 #[.pointer (some ⟨g, 0, none⟩)] w (Out w g r H A n c l lim v (toldX (bitsL l) lim s) (toldAns g)) := by
  obtain ⟨X, HX⟩ : ∃ X, RowKit.Hid (toldX (bitsL l) lim s = X) := ⟨_, Lib.hid rfl⟩
  rw [HX.out]
  have hX := HX.out
  rw [told_eq] at hX
  have hga := World.grownBy_alloc w (.cells #[.pointer none, .pointer none] 45) none
  have HM0 := Lib.hid (hm.still hga)
  have HG0 : RowKit.Hid (Moves w (w.alloc (.cells #[.pointer none, .pointer none] 45)) g r v v) := Lib.hid (Moves.grown v hga (.inl rfl))
  have HB0 : RowKit.Hid (RB (w.alloc (.cells #[.pointer none, .pointer none] 45)) w.heap.size v) := Lib.hid ⟨Row.new w _ _, fun e => by have := (hm.ownLt e.symm).2; omega⟩
  have HR0 : RowKit.Hid (w.heap.size ≠ g ∧ w.heap.size ≠ r ∧ H ≤ w.heap.size ∧ w.heap.size < (w.alloc (.cells #[.pointer none, .pointer none] 45)).heap.size) := Lib.hid ⟨by have := hm.lt; omega, by have := hm.rrow.lt; omega, hm.hs, by simp⟩
  have HX0 := Lib.hid hX
  clear hX hga hm HX
  go_enter Tryd.func41, Tryd.ntmps41
  go_wp2_with fail
  generalize w.alloc (.cells #[.pointer none, .pointer none] 45) = w0 at HM0 HG0 HB0 HR0 ⊢
  generalize hrb : w.heap.size = rb at HB0 HR0 ⊢
  have HRW : RowKit.Hid (w.heap.size ≤ rb) := Lib.hid (Nat.le_of_eq hrb)
  clear hrb
  refine (mnum_any 5 (by omega) w0 HM0.out).mono ?_
  rintro e w1 (⟨a, s1, v1, hx1, hm1, hg1, he1⟩ | ⟨k2, b2, v1, hx1, rfl, hb2, hc2, hg1⟩)
  rotate_left
  · exact ⟨rfl, Out.passed HG0.out (bind_err hx1 HX0.out) hb2 hc2 hg1⟩
  obtain rfl := he1
  have ha : a < 32 := num_lt hx1
  have HM1 := Lib.hid hm1
  have HG1 := Lib.hid (HG0.out.trans hg1)
  have HB1 := Lib.hid (HB0.out.moves hg1 HR0.out.1 HR0.out.2.1)
  have HX1 := Lib.hid (bind_go hx1 HX0.out)
  clear hx1 hm1 hg1 HM0 HG0 HB0 HX0
  obtain ⟨la, hla⟩ : ∃ la, a + 257 = la := ⟨_, rfl⟩
  have ea : (a : Int) + 257 = (la : Int) := by omega
  go_wp2_with fail
  refine (mnum_any 5 (by omega) w1 HM1.out).mono ?_
  rintro e w2 (⟨b, s2, v2, hx2, hm2, hg2, he2⟩ | ⟨k2, b2, v2, hx2, rfl, hb2, hc2, hg2⟩)
  rotate_left
  · exact ⟨rfl, Out.passed HG1.out (bind_err hx2 HX1.out) hb2 hc2 hg2⟩
  obtain rfl := he2
  have hb : b < 32 := num_lt hx2
  have HM2 := Lib.hid hm2
  have HG2 := Lib.hid (HG1.out.trans hg2)
  have HB2 := Lib.hid (HB1.out.moves hg2 HR0.out.1 HR0.out.2.1)
  have HX2 := Lib.hid (bind_go hx2 HX1.out)
  clear hx2 hm2 hg2 HM1 HG1 HB1 HX1 ea
  obtain ⟨lb, hlb⟩ : ∃ lb, b + 1 = lb := ⟨_, rfl⟩
  have eb : (b : Int) + 1 = (lb : Int) := by omega
  go_wp2_with fail
  refine (mnum_any 4 (by omega) w2 HM2.out).mono ?_
  rintro e w3 (⟨d, s3, v3, hx3, hm3, hg3, he3⟩ | ⟨k2, b2, v3, hx3, rfl, hb2, hc2, hg3⟩)
  rotate_left
  · exact ⟨rfl, Out.passed HG2.out (bind_err hx3 HX2.out) hb2 hc2 hg3⟩
  obtain rfl := he3
  have hd16 : d < 16 := num_lt hx3
  have HM3 := Lib.hid hm3
  have HG3 := Lib.hid (HG2.out.trans hg3)
  have HB3 := Lib.hid (HB2.out.moves hg3 HR0.out.1 HR0.out.2.1)
  have hX3 := bind_go hx3 HX2.out
  clear hx3 hm3 hg3 HM2 HG2 HB2 HX2 eb
  obtain ⟨lc, hlc⟩ : ∃ lc, d + 4 = lc := ⟨_, rfl⟩
  have ec : (d : Int) + 4 = (lc : Int) := by omega
  by_cases hbad : 286 < 257 + a ∨ 30 < 1 + b
  · rw [if_pos hbad] at hX3
    have HX3 : RowKit.Hid (X = .error 2) := Lib.hid hX3.symm
    clear hX3
    by_cases h1 : 286 < 257 + a
    · have d1 : decide ((la : Int) ≤ 286) = false := decide_eq_false (by omega)
      clear hbad h1
      go_wp2_with fail
      refine (must_no w3 _ (by first | rfl | (simp; omega))).mono ?_
      rintro e w4 ⟨rfl, rfl⟩
      exact ⟨rfl, Out.thrown HX3.out HG3.out 2 rfl⟩
    · have d1 : decide ((la : Int) ≤ 286) = true := decide_eq_true (by omega)
      have d2 : decide ((lb : Int) ≤ 30) = false := decide_eq_false (by omega)
      clear hbad h1
      go_wp2_with fail
      refine (must_no w3 _ (by first | rfl | (simp; omega))).mono ?_
      rintro e w4 ⟨rfl, rfl⟩
      exact ⟨rfl, Out.thrown HX3.out HG3.out 2 rfl⟩
  rw [if_neg hbad, show 4 + d = lc by omega] at hX3
  have HX3 := Lib.hid hX3
  have d1 : decide ((la : Int) ≤ 286) = true := decide_eq_true (by omega)
  have d2 : decide ((lb : Int) ≤ 30) = true := decide_eq_true (by omega)
  obtain ⟨tt, htt⟩ : ∃ tt, la + lb = tt := ⟨_, rfl⟩
  have et : (la : Int) + (lb : Int) = (tt : Int) := by omega
  have htt2 : 257 + a + (1 + b) = tt := by omega
  have HTA : RowKit.Hid (257 + a = la) := Lib.hid (by omega)
  have HTT := Lib.hid htt2
  have ht320 : tt ≤ 320 := by omega
  have hla0 : 257 ≤ la := by omega
  have hla1 : la < tt := by omega
  have hlc19 : lc ≤ 19 := by omega
  clear hX3 hbad htt2
  go_wp2_with fail
  refine (must_ok w3 _ (by first | rfl | (simp; omega))).mono ?_
  rintro e w4 ⟨rfl, rfl⟩
  clear d1 d2 hlc ec
  go_wp2_with fail
  refine (helper_any lc hlc19 w3 HM3.out).mono ?_
  rintro e w4 (⟨h, s4, v4, hx4, hm4, hg4, h19, hp, rfl, hcd⟩ | ⟨k2, b2, v4, hx4, rfl, hb2, hc2, hg4⟩)
  rotate_left
  · exact ⟨rfl, Out.passed HG3.out (bind_err hx4 HX3.out) hb2 hc2 hg4⟩
  have HM4 := Lib.hid hm4
  have HG4 := Lib.hid (HG3.out.trans hg4)
  have HB4 := Lib.hid (HB3.out.moves hg4 HR0.out.1 HR0.out.2.1)
  have HX4 := Lib.hid (bind_go hx4 HX3.out)
  have HC4 := Lib.hid hcd
  have H19 := Lib.hid h19
  clear hx4 hm4 hg4 hcd h19 HM3 HG3 HB3 HX3
  go_wp2_with fail
  refine (lengths_any hp tt h H19.out ht320 w4 HM4.out HC4.out).mono ?_
  rintro e w5 (⟨ll, s5, v5, hx5, hm5, hg5, hlen, hlow, A2, c2, rfl, hrd, hcz, htc⟩ | ⟨k2, b2, v5, hx5, rfl, hb2, hc2, hg5⟩)
  rotate_left
  · refine ⟨rfl, Out.passed HG4.out ?_ hb2 hc2 hg5⟩
    have hX4 := HX4.out
    unfold toldK at hX4
    rw [HTT.out] at hX4
    exact bind_err hx5 hX4
  have hX5 : (if right (ll.take la) false = false ∨ right (ll.drop la) true = false ∨ ll.getD 256 0 = 0 then (failX 2 : Go.Proofs.YtjipjclbhdgkoaaDoor.X (List Nat × List Nat)) else pureX (ll.take la, ll.drop la)) (bitsL l) lim s5 = X := by
    have hX4 := HX4.out
    unfold toldK at hX4
    rw [HTT.out, HTA.out] at hX4
    have h9 := bind_go hx5 hX4
    exact h9
  obtain ⟨bb, oo, rfl, hbb, hcell⟩ := hrd.2 (by omega)
  have HRD := Lib.hid hrd
  have HM5 := Lib.hid hm5
  have HG5 := Lib.hid (HG4.out.trans hg5)
  have HB5 := Lib.hid (HB4.out.moves hg5 HR0.out.1 HR0.out.2.1)
  have HX5 := Lib.hid hX5
  have HLEN := Lib.hid hlen
  have HLOW := Lib.hid hlow
  have hne : ¬ c2 = la := by omega
  have hlac : la ≤ c2 := by omega
  have hlat : la ≤ tt := by omega
  clear hX5 hx5 hm5 hg5 hcz hlen hlow hcell hbb hrd HM4 HG4 HB4 HX4 HC4 et
  obtain ⟨z, hz⟩ : ∃ z, ll.getD 256 0 = z := ⟨_, rfl⟩
  have HZ := Lib.hid hz
  rw [hz] at HX5
  have hz15 : z ≤ 15 := by
    rw [← hz, List.getD_eq_getElem?_getD]
    rw [List.getElem?_eq_getElem (show 256 < ll.length by rw [HLEN.out]; omega)]
    exact HLOW.out _ (List.getElem_mem _)
  clear hz
  go_wp2_with fail
  have HMc := Lib.hid (HM5.out.still (drew_grown w5))
  have HGc := Lib.hid (HG5.out.trans (Moves.grown (g := g) (r := r) v5 (drew_grown w5) (.inl rfl)))
  have HBc : RowKit.Hid (RB w5.drew rb v5) := Lib.hid HB5.out
  have HDc : RowKit.Hid (Rd w5.drew w5.drew.heap.size (some ⟨bb, oo, none⟩) tt (is (ints64 ll))) := Lib.hid HRD.out
  have HSc : RowKit.Hid (rb < w5.drew.heap.size) := Lib.hid HB5.out.1.lt
  refine wp_region_any (by kernel_rfl) ?_
  change wpAny _ _ _ _ _ _ _ (World.drew _)
  generalize w5.drew = wc0 at HMc HGc HBc HDc HSc ⊢
  clear HM5 HG5 HB5 HRD
  refine wpAny_take (i := 0) (v := ?_) rfl (by kernel_rfl) (by kernel_rfl) (by kernel_rfl) (fun _ _ _ h => h) (Or.inl ⟨by rfl, ?_⟩) ?_
  rotate_left
  · intro w
    go_simp
    try with_reducible rfl
  refine wpAny_take (i := 1) (v := ?_) rfl (by kernel_rfl) (by kernel_rfl) (by kernel_rfl) (fun _ _ _ h => h) (Or.inl ⟨by rfl, ?_⟩) ?_
  rotate_left
  · intro w
    go_simp
    try with_reducible rfl
  refine wpAny_take (i := 2) (v := ?_) rfl (by kernel_rfl) (by kernel_rfl) (by kernel_rfl) (fun _ _ _ h => h) (Or.inl ⟨by rfl, ?_⟩) ?_
  rotate_left
  · intro w
    go_simp
    try with_reducible rfl
  refine wpAny_take (i := 4) (v := ?_) rfl (by kernel_rfl) (by kernel_rfl) (by kernel_rfl) (fun _ _ _ h => h) (Or.inl ⟨by rfl, ?_⟩) ?_
  rotate_left
  · intro w
    go_simp
    try with_reducible rfl
  refine wpAny_take (i := 5) (v := ?_) rfl (by kernel_rfl) (by kernel_rfl) (by kernel_rfl) (fun _ _ _ h => h) (Or.inl ⟨by rfl, ?_⟩) ?_
  rotate_left
  · intro w
    go_simp
    try with_reducible rfl
  refine wpAny_take (i := 6) (v := ?_) rfl (by kernel_rfl) (by kernel_rfl) (by kernel_rfl) (fun _ _ _ h => h) (Or.inl ⟨by rfl, ?_⟩) ?_
  rotate_left
  · intro w
    go_simp
    try with_reducible rfl
  refine wpAny_ready (rs := [3, 9]) (by kernel_rfl) (by simp) ?_
  refine AllReady.cons rfl (fun K hK => ?_) (AllReady.cons rfl (fun K hK => ?_) AllReady.nil)
  · go_simp
    go_wp2_with fail
    refine (code_any _ _ _ (ll.take la) false wc0 (by have h0 := HDc.out.part 0 la (by omega); rw [List.drop_zero, is_take] at h0; exact h0) (by simp) (by rw [List.length_take, HLEN.out]; omega) (low_take HLOW.out la)).mono ?_
    rintro e wc1 ⟨hb, ⟨hrt, a1, rfl, hl⟩ | ⟨hno, bx, rfl, hbx, hcx⟩⟩
    rotate_left
    · refine ⟨rfl, Out.passed HGc.out ?_ hbx hcx (Moves.grown v5 (grown_of_below hb) (.inl rfl))⟩
      rw [← HX5.out, if_pos (.inl hno)]
      rfl
    have HL1 := Lib.hid (HMc.out.cl hl)
    have HT1 := Lib.hid hrt
    have HQ1 := Lib.hid HSc.out
    have HMc := Lib.hid (HMc.out.still (grown_of_below hb))
    have HGc := Lib.hid (HGc.out.trans (Moves.grown v5 (grown_of_below hb) (.inl rfl)))
    have HBc := Lib.hid (HBc.out.grown (grown_of_below hb) (by simp))
    have HDc := Lib.hid (HDc.out.next hb)
    have HSc : RowKit.Hid (rb < wc1.heap.size) := Lib.hid HBc.out.1.lt
    have HV1 := Lib.hid hb.size
    clear hb hl hrt
    go_simp
    refine hK _ _ ?_
    clear hK K
    refine wpAny_ready (rs := [7, 9]) (by kernel_rfl) (by simp) ?_
    refine AllReady.cons rfl (fun K hK => ?_) (AllReady.cons rfl (fun K hK => ?_) AllReady.nil)
    · go_simp
      go_wp2_with fail
      refine (code_any _ _ _ (ll.drop la) true wc1 (by have h0 := HDc.out.part la (tt - la) (by omega); rw [is_drop, is_take, List.take_of_length_le (by rw [List.length_drop, HLEN.out]; omega)] at h0; exact h0) (by simp) (by rw [List.length_drop, HLEN.out]; omega) (low_drop HLOW.out la)).mono ?_
      rintro e wc2 ⟨hb, ⟨hrt, a2, rfl, hl⟩ | ⟨hno, bx, rfl, hbx, hcx⟩⟩
      rotate_left
      · refine ⟨rfl, Out.passed HGc.out ?_ hbx hcx (Moves.grown v5 (grown_of_below hb) (.inl rfl))⟩
        rw [← HX5.out, if_pos (.inr (.inl hno))]
        rfl
      have HL2 := Lib.hid (HMc.out.cl hl)
      have HT2 := Lib.hid hrt
      have HQ2 := Lib.hid HSc.out
      have HL1 := Lib.hid (HL1.out.grown (grown_of_below hb) (fun _ h => by cases h))
      have HMc := Lib.hid (HMc.out.still (grown_of_below hb))
      have HGc := Lib.hid (HGc.out.trans (Moves.grown v5 (grown_of_below hb) (.inl rfl)))
      have HBc := Lib.hid (HBc.out.grown (grown_of_below hb) (by simp))
      have HDc := Lib.hid (HDc.out.next hb)
      have HSc : RowKit.Hid (rb < wc2.heap.size) := Lib.hid HBc.out.1.lt
      have HV2 := Lib.hid hb.size
      clear hb hl hrt
      go_simp
      refine hK _ _ ?_
      clear hK K
      refine wpAny_take (i := 8) (v := ?_) rfl (by kernel_rfl) (by kernel_rfl) (by kernel_rfl) (fun _ _ _ h => h) (Or.inl ⟨by rfl, ?_⟩) ?_
      rotate_left
      · intro w
        go_simp
        try with_reducible rfl
      refine wpAny_ready (rs := [9]) (by kernel_rfl) (by simp) ?_
      refine AllReady.cons rfl (fun K hK => ?_) AllReady.nil
      go_simp
      refine hK _ _ ?_
      clear hK K
      have hga := World.grownBy_alloc wc2 (.cells #[.pointer none, .pointer none] 45) none
      obtain ⟨cb, hcb⟩ : ∃ cb, wc2.heap.size = cb := ⟨_, rfl⟩
      have HRc : RowKit.Hid (Row (wc2.alloc (.cells #[.pointer none, .pointer none] 45)) cb #[.pointer none, .pointer none] 45) := Lib.hid (by rw [← hcb]; exact Row.new wc2 _ _)
      have HCR : RowKit.Hid (rb ≠ cb ∧ cb ≠ g ∧ H ≤ cb ∧ some cb ≠ v5.ownBlock ∧ w.heap.size ≤ cb) := Lib.hid (by rw [← hcb]; exact ⟨by have := HSc.out; omega, by have := HMc.out.lt; omega, HMc.out.hs, fun e => by have := (HMc.out.ownLt e.symm).2; omega, HGc.out.size⟩)
      have HO1 : RowKit.Hid (cb < wc0.heap.size ∨ wc1.heap.size ≤ cb) := Lib.hid (.inr (by rw [← hcb]; exact HL1.out.hi))
      have HL1 := Lib.hid (HL1.out.grown hga (fun _ h => by cases h))
      have HO2 : RowKit.Hid (cb < wc1.heap.size ∨ wc2.heap.size ≤ cb) := Lib.hid (.inr (by rw [← hcb]; exact HL2.out.hi))
      have HL2 := Lib.hid (HL2.out.grown hga (fun _ h => by cases h))
      have HMc := Lib.hid (HMc.out.still hga)
      have HGc := Lib.hid (HGc.out.trans (Moves.grown v5 hga (.inl rfl)))
      have HBc := Lib.hid (HBc.out.grown hga (by simp))
      have HDc := Lib.hid (HDc.out.next (below_make hga))
      have HSc := Lib.hid HBc.out.1.lt
      have HCB := Lib.hid HRc.out.lt
      rw [hcb]
      generalize wc2.alloc (.cells #[.pointer none, .pointer none] 45) = wc3 at HMc HGc HBc HDc HSc HRc HCB HL1 HL2 ⊢
      clear hga hcb
      refine wpAny_ready (rs := [10]) (by kernel_rfl) (by simp) ?_
      refine AllReady.cons rfl (fun K hK => ?_) AllReady.nil
      have k0 := HRc.out.cell 0
      have k1 := HRc.out.cell 1
      have kf0 := HRc.out.thawed 0
      have kf1 := HRc.out.thawed 1
      go_simp
      refine hK _ _ ?_
      clear hK K k0 k1 kf0 kf1
      refine wpAny_done (by kernel_rfl) ?_ _
      have hgs : World.grownBy wc3 ((wc3.setCell ⟨cb, 0, none⟩ (.pointer (some ⟨a1, 0, none⟩))).setCell ⟨cb, 1, none⟩ (.pointer (some ⟨a2, 0, none⟩))) (some cb) := (grown_setCell wc3 cb 0 _).trans (grown_setCell _ cb 1 _)
      have hcl1 := HL1.out.grown hgs (fun k e => by injection e with e; subst e; exact HO1.out)
      have hcl2 := HL2.out.grown hgs (fun k e => by injection e with e; subst e; exact HO2.out)
      have hm6 := HMc.out.beyond hgs (fun k e => by injection e with e; subst e; exact ⟨HCR.out.2.2.1, HCR.out.2.2.2.1⟩)
      have hg6 := HGc.out.beyond hgs (fun k e => by injection e with e; subst e; exact HCR.out.2.2.2.2)
      have hb6 := HBc.out.grown hgs (fun e => by injection e with e; exact HCR.out.1 e)
      have hrc6 := (HRc.out.set 0 (.pointer (some ⟨a1, 0, none⟩))).set 1 (.pointer (some ⟨a2, 0, none⟩))
      obtain ⟨b9, o9, e9, hlt9, hc9⟩ := HDc.out.2 (by omega)
      injection e9 with e9
      injection e9 with e91 e92
      subst e91 e92
      have c256 : wc3.cell? ⟨bb, oo + 256, none⟩ = some (.int .i64 (z : Int)) := hc9 256 _ (is_at (by rw [HLEN.out]; omega) HZ.out)
      have hbc : bb ≠ cb := fun e => by
        subst e
        rw [HRc.out.cell, Array.getElem?_eq_none (by show 2 ≤ oo + 256; omega)] at c256
        cases c256
      have c6 := (World.cell?_of_block (w := wc3) (a := ⟨bb, oo + 256, none⟩) (hgs.block bb hlt9 (fun e => by injection e with e; exact hbc e))).trans c256
      have HM6 := Lib.hid hm6
      have HG6 := Lib.hid hg6
      have HB6 := Lib.hid hb6
      have HR6 := Lib.hid hrc6
      have HCL := Lib.hid (And.intro hcl1 hcl2)
      have h256 : 256 < tt := by omega
      have h256i : (256 : Int) < (tt : Int) := by omega
      clear hgs hcl1 hcl2 hm6 hg6 hb6 hrc6 hlt9 hc9 c256 hbc HL1 HL2 HMc HGc HBc HDc HRc HCB HSc
      generalize (wc3.setCell ⟨cb, 0, none⟩ (.pointer (some ⟨a1, 0, none⟩))).setCell ⟨cb, 1, none⟩ (.pointer (some ⟨a2, 0, none⟩)) = w6 at HM6 HG6 HB6 HR6 HCL c6 ⊢
      by_cases hz0 : z = 0
      · have HXE : RowKit.Hid (X = .error 2) := Lib.hid (by rw [← HX5.out, if_pos (.inr (.inr hz0))]; rfl)
        subst hz0
        go_wp2_with fail
        refine (must_no w6 _ (by first | rfl | (simp; omega))).mono ?_
        rintro e w7 ⟨rfl, rfl⟩
        exact ⟨rfl, Out.thrown HXE.out HG6.out 2 rfl⟩
      have hzd : decide (0 < (z : Int)) = true := decide_eq_true (by omega)
      have HXO : RowKit.Hid (X = .ok ((ll.take la, ll.drop la), s5)) := Lib.hid (by
        rw [← HX5.out, if_neg]
        · rfl
        · rintro (h1 | h1 | h1)
          · rw [HT1.out] at h1; cases h1
          · rw [HT2.out] at h1; cases h1
          · exact hz0 h1)
      go_wp2_with fail
      refine (must_ok w6 _ (by first | rfl | (simp; omega))).mono ?_
      rintro e w7 ⟨rfl, rfl⟩
      have q0 := HR6.out.cell 0
      have q1 := HR6.out.cell 1
      have p0 := HB6.out.1.cell 0
      have p1 := HB6.out.1.cell 1
      have pf0 := HB6.out.1.thawed 0
      have pf1 := HB6.out.1.thawed 1
      have q0 : w6.cell? ⟨cb, 0, none⟩ = some (.pointer (some ⟨a1, 0, none⟩)) := q0
      have q1 : w6.cell? ⟨cb, 1, none⟩ = some (.pointer (some ⟨a2, 0, none⟩)) := q1
      have p0 : w6.cell? ⟨rb, 0, none⟩ = some (.pointer none) := p0
      have p1 : w6.cell? ⟨rb, 1, none⟩ = some (.pointer none) := p1
      clear c6 hzd
      go_wp2_with fail
      have hgr : World.grownBy w6 ((w6.setCell ⟨rb, 0, none⟩ (.pointer (some ⟨a1, 0, none⟩))).setCell ⟨rb, 1, none⟩ (.pointer (some ⟨a2, 0, none⟩))) (some rb) := (grown_setCell w6 rb 0 _).trans (grown_setCell _ rb 1 _)
      have hrow := (HB6.out.1.set 0 (.pointer (some ⟨a1, 0, none⟩))).set 1 (.pointer (some ⟨a2, 0, none⟩))
      refine bodyPost_ret (results_cell_row rfl _ _ rb 45 _ (0, 0) _ rfl hrow Tryd.underlying45 rfl size45) rfl ?_
      exact .inl ⟨(ll.take la, ll.drop la), s5, v5, HXO.out, HM6.out.beyond hgr (fun k e => by injection e with e; subst e; exact ⟨HR0.out.2.2.1, HB6.out.2⟩), HG6.out.beyond hgr (fun k e => by injection e with e; subst e; exact HRW.out), a1, a2, rfl,
        (HCL.out.1.grown hgr (fun k e => by injection e with e; subst e; exact .inl HQ1.out)).cdh, (HCL.out.2.grown hgr (fun k e => by injection e with e; subst e; exact .inl HQ2.out)).cdh⟩
    · go_simp
      refine hK _ _ ?_
      clear hK K
      have hga := World.grownBy_alloc wc1 (.cells #[.pointer none, .pointer none] 45) none
      obtain ⟨cb, hcb⟩ : ∃ cb, wc1.heap.size = cb := ⟨_, rfl⟩
      have HRc : RowKit.Hid (Row (wc1.alloc (.cells #[.pointer none, .pointer none] 45)) cb #[.pointer none, .pointer none] 45) := Lib.hid (by rw [← hcb]; exact Row.new wc1 _ _)
      have HCR : RowKit.Hid (rb ≠ cb ∧ cb ≠ g ∧ H ≤ cb ∧ some cb ≠ v5.ownBlock ∧ w.heap.size ≤ cb) := Lib.hid (by rw [← hcb]; exact ⟨by have := HSc.out; omega, by have := HMc.out.lt; omega, HMc.out.hs, fun e => by have := (HMc.out.ownLt e.symm).2; omega, HGc.out.size⟩)
      have HO1 : RowKit.Hid (cb < wc0.heap.size ∨ wc1.heap.size ≤ cb) := Lib.hid (.inr (by rw [← hcb]; exact HL1.out.hi))
      have HL1 := Lib.hid (HL1.out.grown hga (fun _ h => by cases h))
      have HMc := Lib.hid (HMc.out.still hga)
      have HGc := Lib.hid (HGc.out.trans (Moves.grown v5 hga (.inl rfl)))
      have HBc := Lib.hid (HBc.out.grown hga (by simp))
      have HDc := Lib.hid (HDc.out.next (below_make hga))
      have HSc := Lib.hid HBc.out.1.lt
      have HCB := Lib.hid HRc.out.lt
      rw [hcb]
      generalize wc1.alloc (.cells #[.pointer none, .pointer none] 45) = wc2 at HMc HGc HBc HDc HSc HRc HCB HL1  ⊢
      clear hga hcb
      refine wpAny_ready (rs := [7]) (by kernel_rfl) (by simp) ?_
      refine AllReady.cons rfl (fun K hK => ?_) AllReady.nil
      go_simp
      go_wp2_with fail
      refine (code_any _ _ _ (ll.drop la) true wc2 (by have h0 := HDc.out.part la (tt - la) (by omega); rw [is_drop, is_take, List.take_of_length_le (by rw [List.length_drop, HLEN.out]; omega)] at h0; exact h0) (by simp) (by rw [List.length_drop, HLEN.out]; omega) (low_drop HLOW.out la)).mono ?_
      rintro e wc3 ⟨hb, ⟨hrt, a2, rfl, hl⟩ | ⟨hno, bx, rfl, hbx, hcx⟩⟩
      rotate_left
      · refine ⟨rfl, Out.passed HGc.out ?_ hbx hcx (Moves.grown v5 (grown_of_below hb) (.inl rfl))⟩
        rw [← HX5.out, if_pos (.inr (.inl hno))]
        rfl
      have HL2 := Lib.hid (HMc.out.cl hl)
      have HT2 := Lib.hid hrt
      have HQ2 := Lib.hid HSc.out
      have HL1 := Lib.hid (HL1.out.grown (grown_of_below hb) (fun _ h => by cases h))
      have HRc := Lib.hid (HRc.out.below hb HRc.out.lt)
      have HO2 : RowKit.Hid (cb < wc2.heap.size ∨ wc3.heap.size ≤ cb) := Lib.hid (.inl HCB.out)
      have HMc := Lib.hid (HMc.out.still (grown_of_below hb))
      have HGc := Lib.hid (HGc.out.trans (Moves.grown v5 (grown_of_below hb) (.inl rfl)))
      have HBc := Lib.hid (HBc.out.grown (grown_of_below hb) (by simp))
      have HDc := Lib.hid (HDc.out.next hb)
      have HSc : RowKit.Hid (rb < wc3.heap.size) := Lib.hid HBc.out.1.lt
      have HV2 := Lib.hid hb.size
      have HCB : RowKit.Hid (cb < wc3.heap.size) := Lib.hid HRc.out.lt
      clear hb hl hrt
      go_simp
      refine hK _ _ ?_
      clear hK K
      refine wpAny_take (i := 8) (v := ?_) rfl (by kernel_rfl) (by kernel_rfl) (by kernel_rfl) (fun _ _ _ h => h) (Or.inl ⟨by rfl, ?_⟩) ?_
      rotate_left
      · intro w
        go_simp
        try with_reducible rfl
      refine wpAny_ready (rs := [10]) (by kernel_rfl) (by simp) ?_
      refine AllReady.cons rfl (fun K hK => ?_) AllReady.nil
      have k0 := HRc.out.cell 0
      have k1 := HRc.out.cell 1
      have kf0 := HRc.out.thawed 0
      have kf1 := HRc.out.thawed 1
      go_simp
      refine hK _ _ ?_
      clear hK K k0 k1 kf0 kf1
      refine wpAny_done (by kernel_rfl) ?_ _
      have hgs : World.grownBy wc3 ((wc3.setCell ⟨cb, 0, none⟩ (.pointer (some ⟨a1, 0, none⟩))).setCell ⟨cb, 1, none⟩ (.pointer (some ⟨a2, 0, none⟩))) (some cb) := (grown_setCell wc3 cb 0 _).trans (grown_setCell _ cb 1 _)
      have hcl1 := HL1.out.grown hgs (fun k e => by injection e with e; subst e; exact HO1.out)
      have hcl2 := HL2.out.grown hgs (fun k e => by injection e with e; subst e; exact HO2.out)
      have hm6 := HMc.out.beyond hgs (fun k e => by injection e with e; subst e; exact ⟨HCR.out.2.2.1, HCR.out.2.2.2.1⟩)
      have hg6 := HGc.out.beyond hgs (fun k e => by injection e with e; subst e; exact HCR.out.2.2.2.2)
      have hb6 := HBc.out.grown hgs (fun e => by injection e with e; exact HCR.out.1 e)
      have hrc6 := (HRc.out.set 0 (.pointer (some ⟨a1, 0, none⟩))).set 1 (.pointer (some ⟨a2, 0, none⟩))
      obtain ⟨b9, o9, e9, hlt9, hc9⟩ := HDc.out.2 (by omega)
      injection e9 with e9
      injection e9 with e91 e92
      subst e91 e92
      have c256 : wc3.cell? ⟨bb, oo + 256, none⟩ = some (.int .i64 (z : Int)) := hc9 256 _ (is_at (by rw [HLEN.out]; omega) HZ.out)
      have hbc : bb ≠ cb := fun e => by
        subst e
        rw [HRc.out.cell, Array.getElem?_eq_none (by show 2 ≤ oo + 256; omega)] at c256
        cases c256
      have c6 := (World.cell?_of_block (w := wc3) (a := ⟨bb, oo + 256, none⟩) (hgs.block bb hlt9 (fun e => by injection e with e; exact hbc e))).trans c256
      have HM6 := Lib.hid hm6
      have HG6 := Lib.hid hg6
      have HB6 := Lib.hid hb6
      have HR6 := Lib.hid hrc6
      have HCL := Lib.hid (And.intro hcl1 hcl2)
      have h256 : 256 < tt := by omega
      have h256i : (256 : Int) < (tt : Int) := by omega
      clear hgs hcl1 hcl2 hm6 hg6 hb6 hrc6 hlt9 hc9 c256 hbc HL1 HL2 HMc HGc HBc HDc HRc HCB HSc
      generalize (wc3.setCell ⟨cb, 0, none⟩ (.pointer (some ⟨a1, 0, none⟩))).setCell ⟨cb, 1, none⟩ (.pointer (some ⟨a2, 0, none⟩)) = w6 at HM6 HG6 HB6 HR6 HCL c6 ⊢
      by_cases hz0 : z = 0
      · have HXE : RowKit.Hid (X = .error 2) := Lib.hid (by rw [← HX5.out, if_pos (.inr (.inr hz0))]; rfl)
        subst hz0
        go_wp2_with fail
        refine (must_no w6 _ (by first | rfl | (simp; omega))).mono ?_
        rintro e w7 ⟨rfl, rfl⟩
        exact ⟨rfl, Out.thrown HXE.out HG6.out 2 rfl⟩
      have hzd : decide (0 < (z : Int)) = true := decide_eq_true (by omega)
      have HXO : RowKit.Hid (X = .ok ((ll.take la, ll.drop la), s5)) := Lib.hid (by
        rw [← HX5.out, if_neg]
        · rfl
        · rintro (h1 | h1 | h1)
          · rw [HT1.out] at h1; cases h1
          · rw [HT2.out] at h1; cases h1
          · exact hz0 h1)
      go_wp2_with fail
      refine (must_ok w6 _ (by first | rfl | (simp; omega))).mono ?_
      rintro e w7 ⟨rfl, rfl⟩
      have q0 := HR6.out.cell 0
      have q1 := HR6.out.cell 1
      have p0 := HB6.out.1.cell 0
      have p1 := HB6.out.1.cell 1
      have pf0 := HB6.out.1.thawed 0
      have pf1 := HB6.out.1.thawed 1
      have q0 : w6.cell? ⟨cb, 0, none⟩ = some (.pointer (some ⟨a1, 0, none⟩)) := q0
      have q1 : w6.cell? ⟨cb, 1, none⟩ = some (.pointer (some ⟨a2, 0, none⟩)) := q1
      have p0 : w6.cell? ⟨rb, 0, none⟩ = some (.pointer none) := p0
      have p1 : w6.cell? ⟨rb, 1, none⟩ = some (.pointer none) := p1
      clear c6 hzd
      go_wp2_with fail
      have hgr : World.grownBy w6 ((w6.setCell ⟨rb, 0, none⟩ (.pointer (some ⟨a1, 0, none⟩))).setCell ⟨rb, 1, none⟩ (.pointer (some ⟨a2, 0, none⟩))) (some rb) := (grown_setCell w6 rb 0 _).trans (grown_setCell _ rb 1 _)
      have hrow := (HB6.out.1.set 0 (.pointer (some ⟨a1, 0, none⟩))).set 1 (.pointer (some ⟨a2, 0, none⟩))
      refine bodyPost_ret (results_cell_row rfl _ _ rb 45 _ (0, 0) _ rfl hrow Tryd.underlying45 rfl size45) rfl ?_
      exact .inl ⟨(ll.take la, ll.drop la), s5, v5, HXO.out, HM6.out.beyond hgr (fun k e => by injection e with e; subst e; exact ⟨HR0.out.2.2.1, HB6.out.2⟩), HG6.out.beyond hgr (fun k e => by injection e with e; subst e; exact HRW.out), a1, a2, rfl,
        (HCL.out.1.grown hgr (fun k e => by injection e with e; subst e; exact .inl HQ1.out)).cdh, (HCL.out.2.grown hgr (fun k e => by injection e with e; subst e; exact .inl HQ2.out)).cdh⟩
  · go_simp
    refine hK _ _ ?_
    clear hK K
    have hga := World.grownBy_alloc wc0 (.cells #[.pointer none, .pointer none] 45) none
    obtain ⟨cb, hcb⟩ : ∃ cb, wc0.heap.size = cb := ⟨_, rfl⟩
    have HRc : RowKit.Hid (Row (wc0.alloc (.cells #[.pointer none, .pointer none] 45)) cb #[.pointer none, .pointer none] 45) := Lib.hid (by rw [← hcb]; exact Row.new wc0 _ _)
    have HCR : RowKit.Hid (rb ≠ cb ∧ cb ≠ g ∧ H ≤ cb ∧ some cb ≠ v5.ownBlock ∧ w.heap.size ≤ cb) := Lib.hid (by rw [← hcb]; exact ⟨by have := HSc.out; omega, by have := HMc.out.lt; omega, HMc.out.hs, fun e => by have := (HMc.out.ownLt e.symm).2; omega, HGc.out.size⟩)
    have HMc := Lib.hid (HMc.out.still hga)
    have HGc := Lib.hid (HGc.out.trans (Moves.grown v5 hga (.inl rfl)))
    have HBc := Lib.hid (HBc.out.grown hga (by simp))
    have HDc := Lib.hid (HDc.out.next (below_make hga))
    have HSc := Lib.hid HBc.out.1.lt
    have HCB := Lib.hid HRc.out.lt
    rw [hcb]
    generalize wc0.alloc (.cells #[.pointer none, .pointer none] 45) = wc1 at HMc HGc HBc HDc HSc HRc HCB   ⊢
    clear hga hcb
    refine wpAny_ready (rs := [3]) (by kernel_rfl) (by simp) ?_
    refine AllReady.cons rfl (fun K hK => ?_) AllReady.nil
    go_simp
    go_wp2_with fail
    refine (code_any _ _ _ (ll.take la) false wc1 (by have h0 := HDc.out.part 0 la (by omega); rw [List.drop_zero, is_take] at h0; exact h0) (by simp) (by rw [List.length_take, HLEN.out]; omega) (low_take HLOW.out la)).mono ?_
    rintro e wc2 ⟨hb, ⟨hrt, a1, rfl, hl⟩ | ⟨hno, bx, rfl, hbx, hcx⟩⟩
    rotate_left
    · refine ⟨rfl, Out.passed HGc.out ?_ hbx hcx (Moves.grown v5 (grown_of_below hb) (.inl rfl))⟩
      rw [← HX5.out, if_pos (.inl hno)]
      rfl
    have HL1 := Lib.hid (HMc.out.cl hl)
    have HT1 := Lib.hid hrt
    have HQ1 := Lib.hid HSc.out
    have HRc := Lib.hid (HRc.out.below hb HRc.out.lt)
    have HO1 : RowKit.Hid (cb < wc1.heap.size ∨ wc2.heap.size ≤ cb) := Lib.hid (.inl HCB.out)
    have HMc := Lib.hid (HMc.out.still (grown_of_below hb))
    have HGc := Lib.hid (HGc.out.trans (Moves.grown v5 (grown_of_below hb) (.inl rfl)))
    have HBc := Lib.hid (HBc.out.grown (grown_of_below hb) (by simp))
    have HDc := Lib.hid (HDc.out.next hb)
    have HSc : RowKit.Hid (rb < wc2.heap.size) := Lib.hid HBc.out.1.lt
    have HV1 := Lib.hid hb.size
    have HCB : RowKit.Hid (cb < wc2.heap.size) := Lib.hid HRc.out.lt
    clear hb hl hrt
    go_simp
    refine hK _ _ ?_
    clear hK K
    refine wpAny_ready (rs := [7]) (by kernel_rfl) (by simp) ?_
    refine AllReady.cons rfl (fun K hK => ?_) AllReady.nil
    go_simp
    go_wp2_with fail
    refine (code_any _ _ _ (ll.drop la) true wc2 (by have h0 := HDc.out.part la (tt - la) (by omega); rw [is_drop, is_take, List.take_of_length_le (by rw [List.length_drop, HLEN.out]; omega)] at h0; exact h0) (by simp) (by rw [List.length_drop, HLEN.out]; omega) (low_drop HLOW.out la)).mono ?_
    rintro e wc3 ⟨hb, ⟨hrt, a2, rfl, hl⟩ | ⟨hno, bx, rfl, hbx, hcx⟩⟩
    rotate_left
    · refine ⟨rfl, Out.passed HGc.out ?_ hbx hcx (Moves.grown v5 (grown_of_below hb) (.inl rfl))⟩
      rw [← HX5.out, if_pos (.inr (.inl hno))]
      rfl
    have HL2 := Lib.hid (HMc.out.cl hl)
    have HT2 := Lib.hid hrt
    have HQ2 := Lib.hid HSc.out
    have HL1 := Lib.hid (HL1.out.grown (grown_of_below hb) (fun _ h => by cases h))
    have HRc := Lib.hid (HRc.out.below hb HRc.out.lt)
    have HO2 : RowKit.Hid (cb < wc2.heap.size ∨ wc3.heap.size ≤ cb) := Lib.hid (.inl HCB.out)
    have HMc := Lib.hid (HMc.out.still (grown_of_below hb))
    have HGc := Lib.hid (HGc.out.trans (Moves.grown v5 (grown_of_below hb) (.inl rfl)))
    have HBc := Lib.hid (HBc.out.grown (grown_of_below hb) (by simp))
    have HDc := Lib.hid (HDc.out.next hb)
    have HSc : RowKit.Hid (rb < wc3.heap.size) := Lib.hid HBc.out.1.lt
    have HV2 := Lib.hid hb.size
    have HCB : RowKit.Hid (cb < wc3.heap.size) := Lib.hid HRc.out.lt
    clear hb hl hrt
    go_simp
    refine hK _ _ ?_
    clear hK K
    refine wpAny_take (i := 8) (v := ?_) rfl (by kernel_rfl) (by kernel_rfl) (by kernel_rfl) (fun _ _ _ h => h) (Or.inl ⟨by rfl, ?_⟩) ?_
    rotate_left
    · intro w
      go_simp
      try with_reducible rfl
    refine wpAny_ready (rs := [10]) (by kernel_rfl) (by simp) ?_
    refine AllReady.cons rfl (fun K hK => ?_) AllReady.nil
    have k0 := HRc.out.cell 0
    have k1 := HRc.out.cell 1
    have kf0 := HRc.out.thawed 0
    have kf1 := HRc.out.thawed 1
    go_simp
    refine hK _ _ ?_
    clear hK K k0 k1 kf0 kf1
    refine wpAny_done (by kernel_rfl) ?_ _
    have hgs : World.grownBy wc3 ((wc3.setCell ⟨cb, 0, none⟩ (.pointer (some ⟨a1, 0, none⟩))).setCell ⟨cb, 1, none⟩ (.pointer (some ⟨a2, 0, none⟩))) (some cb) := (grown_setCell wc3 cb 0 _).trans (grown_setCell _ cb 1 _)
    have hcl1 := HL1.out.grown hgs (fun k e => by injection e with e; subst e; exact HO1.out)
    have hcl2 := HL2.out.grown hgs (fun k e => by injection e with e; subst e; exact HO2.out)
    have hm6 := HMc.out.beyond hgs (fun k e => by injection e with e; subst e; exact ⟨HCR.out.2.2.1, HCR.out.2.2.2.1⟩)
    have hg6 := HGc.out.beyond hgs (fun k e => by injection e with e; subst e; exact HCR.out.2.2.2.2)
    have hb6 := HBc.out.grown hgs (fun e => by injection e with e; exact HCR.out.1 e)
    have hrc6 := (HRc.out.set 0 (.pointer (some ⟨a1, 0, none⟩))).set 1 (.pointer (some ⟨a2, 0, none⟩))
    obtain ⟨b9, o9, e9, hlt9, hc9⟩ := HDc.out.2 (by omega)
    injection e9 with e9
    injection e9 with e91 e92
    subst e91 e92
    have c256 : wc3.cell? ⟨bb, oo + 256, none⟩ = some (.int .i64 (z : Int)) := hc9 256 _ (is_at (by rw [HLEN.out]; omega) HZ.out)
    have hbc : bb ≠ cb := fun e => by
      subst e
      rw [HRc.out.cell, Array.getElem?_eq_none (by show 2 ≤ oo + 256; omega)] at c256
      cases c256
    have c6 := (World.cell?_of_block (w := wc3) (a := ⟨bb, oo + 256, none⟩) (hgs.block bb hlt9 (fun e => by injection e with e; exact hbc e))).trans c256
    have HM6 := Lib.hid hm6
    have HG6 := Lib.hid hg6
    have HB6 := Lib.hid hb6
    have HR6 := Lib.hid hrc6
    have HCL := Lib.hid (And.intro hcl1 hcl2)
    have h256 : 256 < tt := by omega
    have h256i : (256 : Int) < (tt : Int) := by omega
    clear hgs hcl1 hcl2 hm6 hg6 hb6 hrc6 hlt9 hc9 c256 hbc HL1 HL2 HMc HGc HBc HDc HRc HCB HSc
    generalize (wc3.setCell ⟨cb, 0, none⟩ (.pointer (some ⟨a1, 0, none⟩))).setCell ⟨cb, 1, none⟩ (.pointer (some ⟨a2, 0, none⟩)) = w6 at HM6 HG6 HB6 HR6 HCL c6 ⊢
    by_cases hz0 : z = 0
    · have HXE : RowKit.Hid (X = .error 2) := Lib.hid (by rw [← HX5.out, if_pos (.inr (.inr hz0))]; rfl)
      subst hz0
      go_wp2_with fail
      refine (must_no w6 _ (by first | rfl | (simp; omega))).mono ?_
      rintro e w7 ⟨rfl, rfl⟩
      exact ⟨rfl, Out.thrown HXE.out HG6.out 2 rfl⟩
    have hzd : decide (0 < (z : Int)) = true := decide_eq_true (by omega)
    have HXO : RowKit.Hid (X = .ok ((ll.take la, ll.drop la), s5)) := Lib.hid (by
      rw [← HX5.out, if_neg]
      · rfl
      · rintro (h1 | h1 | h1)
        · rw [HT1.out] at h1; cases h1
        · rw [HT2.out] at h1; cases h1
        · exact hz0 h1)
    go_wp2_with fail
    refine (must_ok w6 _ (by first | rfl | (simp; omega))).mono ?_
    rintro e w7 ⟨rfl, rfl⟩
    have q0 := HR6.out.cell 0
    have q1 := HR6.out.cell 1
    have p0 := HB6.out.1.cell 0
    have p1 := HB6.out.1.cell 1
    have pf0 := HB6.out.1.thawed 0
    have pf1 := HB6.out.1.thawed 1
    have q0 : w6.cell? ⟨cb, 0, none⟩ = some (.pointer (some ⟨a1, 0, none⟩)) := q0
    have q1 : w6.cell? ⟨cb, 1, none⟩ = some (.pointer (some ⟨a2, 0, none⟩)) := q1
    have p0 : w6.cell? ⟨rb, 0, none⟩ = some (.pointer none) := p0
    have p1 : w6.cell? ⟨rb, 1, none⟩ = some (.pointer none) := p1
    clear c6 hzd
    go_wp2_with fail
    have hgr : World.grownBy w6 ((w6.setCell ⟨rb, 0, none⟩ (.pointer (some ⟨a1, 0, none⟩))).setCell ⟨rb, 1, none⟩ (.pointer (some ⟨a2, 0, none⟩))) (some rb) := (grown_setCell w6 rb 0 _).trans (grown_setCell _ rb 1 _)
    have hrow := (HB6.out.1.set 0 (.pointer (some ⟨a1, 0, none⟩))).set 1 (.pointer (some ⟨a2, 0, none⟩))
    refine bodyPost_ret (results_cell_row rfl _ _ rb 45 _ (0, 0) _ rfl hrow Tryd.underlying45 rfl size45) rfl ?_
    exact .inl ⟨(ll.take la, ll.drop la), s5, v5, HXO.out, HM6.out.beyond hgr (fun k e => by injection e with e; subst e; exact ⟨HR0.out.2.2.1, HB6.out.2⟩), HG6.out.beyond hgr (fun k e => by injection e with e; subst e; exact HRW.out), a1, a2, rfl,
      (HCL.out.1.grown hgr (fun k e => by injection e with e; subst e; exact .inl HQ1.out)).cdh, (HCL.out.2.grown hgr (fun k e => by injection e with e; subst e; exact .inl HQ2.out)).cdh⟩
end Go.Proofs.YtjipjclbhdgkoaaDoor
