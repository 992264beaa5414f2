/- Contract of a file's member, where it is one that was packed, but for its sum and its size. -/
import Derived.Test.YtpnnlhegncbfaaaGreatDoorGzh
import Derived.Test.YtpnnlhegncbfaaaGreatDoorGzk
import Derived.Test.YtpnnlhegncbfaaaGreatDoorGzs
namespace Go.Proofs.YtpnnlhegncbfaaaGreatDoor
set_option maxRecDepth 20000
open Go.RowKit

theorem FS.setSt {w : World} {g : Nat} {A : Option Addr} {n c : Nat} {b : List UInt8} {lim : Nat} {v : Value} {at_ st : Nat} {text : List UInt8} (h : FS w g A n c b lim v at_ st text) (p : Nat) (z : Int) (hz : z = (p : Int)) (h1 : p ≤ 8 * at_) : FS (w.setCell ⟨g, 4, none⟩ (.int .i64 z)) g A n c b lim v at_ p text := by
  subst hz
  have hg := grown_setCell w g 4 (.int .i64 (p : Int))
  have hb : Below g w (w.setCell ⟨g, 4, none⟩ (.int .i64 (p : Int))) := (Below.refl g w).grown hg (Nat.le_of_lt h.lt) (fun k hk => by injection hk with hk; omega)
  refine ⟨h.row.set 4 _, h.rd.below hb, h.cap, h.lc, h.form, h.le, World.ownsRow.kept h.own hg (.inr ?_), h.tab.block (hb.block 2 h.pos), h.tabs.below hb (by have := h.pos; omega), h.pos, h.lm, h.tl, h.nn, h1⟩
  intro e
  have := (World.ownsRow.lt h.own g e).1
  omega
/-- A fault is thrown, and the file's own blocks alone may have changed. -/
def ThrownM (w : World) (g : Nat) (v : Value) (k : Nat) (e : Ending) (w' : World) : Prop :=
  ∃ q v', e = .panicked (flt ⟨q, 0, none⟩) ∧ w'.cell? ⟨q, 0, none⟩ = some (.int .i64 (k : Int)) ∧ Moves w w' g g v v' ∧ w.heap.size ≤ q
/-- A member with whatever stands for its sum and its size. -/
def memB (l : List UInt8) (z : Int) (S Z : List UInt8) : List UInt8 := headB ++ (packT l z ++ (S ++ Z))
/-- What such a member comes to, where its sum and its size are right. -/
def MbM (w : World) (g : Nat) (A : Option Addr) (n c : Nat) (b : List UInt8) (lim : Nat) (v : Value) (at_ : Nat) (text l : List UInt8) (z : Int) (e : Ending) (w' : World) : Prop :=
  (lim < text.length + l.length ∧ ThrownM w g v 3 e w') ∨
  (text.length + l.length ≤ lim ∧ e = .returned (.tuple #[]) ∧
    ∃ v' st', FS w' g A n c b lim v' (at_ + (packT l z).length + 18) st' (text ++ l) ∧ Moves w w' g g v v')
set_option maxHeartbeats 8000000 in
theorem member_any (g : Nat) (A : Option Addr) (n c : Nat) (b R : List UInt8) (lim : Nat) (v : Value) (at_ st : Nat) (text l S Z : List UInt8) (z : Int) (w : World) (h : FS w g A n c b lim v at_ st text)
    (hb : b.drop at_ = memB l z S Z ++ R) (hS : S.length = 4) (hZ : Z.length = 4) (hl : l.length ≤ 30000) (hSc : numL S = (addP 0 l).toNat) (hZc : numL Z = l.length) :
    Calls Tryz.prog 39 #[.pointer (some ⟨g, 0, none⟩)] w (MbM w g A n c b lim v at_ text l z) := by
  obtain ⟨pl, hpl⟩ : ∃ pl, (packT l z).length = pl := ⟨_, rfl⟩
  have hlen : at_ + pl + 18 ≤ n := by
    have h1 := congrArg List.length hb
    have h0 : headB.length = 10 := rfl
    unfold memB at h1
    simp only [List.length_drop, List.length_append, h.len, hS, hZ, h0, hpl] at h1
    omega
  have hb1 : b.drop (at_ + 10) = packT l z ++ (S ++ (Z ++ R)) := by
    rw [← List.drop_drop, hb]
    unfold memB
    simp only [List.append_assoc]
    exact List.drop_left' rfl
  have hb2 : (b.drop (at_ + 10 + pl)).take 4 = S := by
    rw [← List.drop_drop, hb1, List.drop_left' hpl, List.take_left' hS]
  have hb3 : (b.drop (at_ + 10 + pl + 4)).take 4 = Z := by
    rw [← List.drop_drop, ← List.drop_drop, hb1, List.drop_left' hpl, List.drop_left' hS, List.take_left' hZ]
  have HH := Lib.hid (head_ok g A n c b (packT l z ++ (S ++ (Z ++ R))) lim v at_ st text w h (by rw [hb]; unfold memB; simp only [List.append_assoc]))
  have HIP := Lib.hid (infl_pack (l := l) (by omega) z (S ++ (Z ++ R)) (lim - text.length))
  rw [← hb1, hpl] at HIP
  have HBB := Lib.hid (And.intro hb2 (And.intro hb3 (And.intro hlen hpl)))
  have HTX : RowKit.Hid (text.length ≤ lim ∧ lim ≤ 1048576 ∧ n ≤ 1000000) := Lib.hid ⟨h.tl, h.lm, h.nn⟩
  have HGW : RowKit.Hid (g < w.heap.size) := Lib.hid h.lt
  have HSL : RowKit.Hid (st ≤ 8 * at_) := Lib.hid h.sl
  clear hb hb1 hb2 hb3 hlen hpl h
  go_enter Tryz.func39, Tryz.ntmps39
  go_wp2_with fail
  refine HH.out.mono ?_
  rintro e w1 ⟨rfl, hf1, hg1⟩
  have HG1 := Lib.hid hg1
  have HPK := Lib.hid (packed_any g A n c b lim v (at_ + 10) st text w1 hf1)
  clear hf1 hg1 HH
  go_wp2_with fail
  refine HPK.out.mono ?_
  rintro e w2 (⟨k, hk, q, rfl, hc, hgq, hq, hq2⟩ | ⟨s, u, hs, rfl, hu, hf2, hg2⟩)
  · have hk3 : lim < text.length + l.length ∧ k = 3 := by
      by_cases hlt : lim - text.length < l.length
      · rw [HIP.out.1 hlt] at hk
        injection hk with hk
        exact ⟨by have := HTX.out.1; omega, hk.symm⟩
      · obtain ⟨s, h1, _⟩ := HIP.out.2 (by omega)
        rw [h1] at hk; cases hk
    rw [hk3.2] at hc
    exact ⟨rfl, .inl ⟨hk3.1, q, v, rfl, hc, (Moves.grown v HG1.out (.inr (.inl rfl))).trans (Moves.grown v hgq (.inl rfl)), Nat.le_trans HG1.out.size hq⟩⟩
  · have hle : text.length + l.length ≤ lim := by
      by_cases hlt : lim - text.length < l.length
      · rw [HIP.out.1 hlt] at hs; cases hs
      · have := HTX.out.1; omega
    obtain ⟨s', h1, h2, h3⟩ := HIP.out.2 (by omega)
    rw [h1] at hs
    injection hs with hs
    injection hs with _ hs
    subst hs
    rw [h2] at hu
    rw [h3] at hf2
    have HLE := Lib.hid hle
    obtain ⟨us, hus⟩ : ∃ us, (s'.pos + 7) / 8 = us := ⟨_, rfl⟩
    obtain ⟨sk, hsk⟩ : ∃ sk, s'.steps = sk := ⟨_, rfl⟩
    obtain ⟨Au, cu, rfl⟩ := hu.slice
    obtain ⟨nl, hnl⟩ : ∃ nl, l.length = nl := ⟨_, rfl⟩
    rw [hus, hsk, hnl]
    rw [hnl] at hu
    have HNL := Lib.hid (And.intro hnl (And.intro (h3.symm.trans hus) (infl_bounds (bits_of _) h1).2.2.2))
    have hcz : Au = none → cu = 0 := noCap' hu
    have HU := Lib.hid (World.ownsRow.alloc hu (.cells #[.slice Au nl cu, .int .i64 (us : Int), .int .i64 (sk : Int)] 88))
    have HF3 := Lib.hid (hf2.still (World.grownBy_alloc w2 (.cells #[.slice Au nl cu, .int .i64 (us : Int), .int .i64 (sk : Int)] 88) none))
    have HR3 : RowKit.Hid (Row (w2.alloc (.cells #[.slice Au nl cu, .int .i64 (us : Int), .int .i64 (sk : Int)] 88)) w2.heap.size #[.slice Au nl cu, .int .i64 (us : Int), .int .i64 (sk : Int)] 88) := Lib.hid (Row.new w2 _ _)
    have HG3 : RowKit.Hid (w.grownBy (w2.alloc (.cells #[.slice Au nl cu, .int .i64 (us : Int), .int .i64 (sk : Int)] 88)) (some g)) := Lib.hid ((HG1.out.trans hg2).trans (World.grownBy_alloc w2 _ (some g)))
    have HN3 : RowKit.Hid (g < w2.heap.size) := Lib.hid hf2.lt
    have HVN : RowKit.Hid (∀ k, v.ownBlock = some k → k < w2.heap.size) := Lib.hid (fun k hk => (World.ownsRow.lt hf2.own k hk).2)
    have HSK : RowKit.Hid (sk ≤ 8 * us) := Lib.hid (by have := (infl_bounds (bits_of _) h1).2.2.2; omega)
    have HG10 : RowKit.Hid (g < w1.heap.size) := Lib.hid (Nat.lt_of_lt_of_le HGW.out HG1.out.size)
    clear hu hf2 hg2 h1 h2 h3 hus hsk hnl hle HPK HIP HG1
    go_wp2_with fail
    generalize w2.alloc (.cells #[.slice Au nl cu, .int .i64 (us : Int), .int .i64 (sk : Int)] 88) = w3 at HU HF3 HR3 HG3 ⊢
    generalize w2.heap.size = N at HR3 HN3 HVN ⊢
    have hplus : pl = us := HNL.out.2.1
    subst hplus
    obtain ⟨sN, hsN⟩ : ∃ sN, numL S = sN := ⟨_, rfl⟩
    obtain ⟨cN, hcN⟩ : ∃ cN, (addP 0 l).toNat = cN := ⟨_, rfl⟩
    obtain ⟨zN, hzN⟩ : ∃ zN, numL Z = zN := ⟨_, rfl⟩
    have HSN := Lib.hid (And.intro hsN (And.intro hcN hzN))
    have hbig : nl ≤ 30000 := by rw [← HNL.out.1]; exact hl
    have HCQ : RowKit.Hid (∀ wx : World, Rd wx wx.heap.size Au nl (us l) → Tabs wx → Calls Tryz.prog 22 #[.slice Au nl cu] wx fun e w' => e = .returned (.int .u32 (cN : Int)) ∧ w' = wx) := Lib.hid (fun wx h1 h2 => (cof_any Au nl cu l wx h1 h2 (by omega)).mono fun e w' ⟨e1, e2⟩ => ⟨by rw [e1, ← hcN], e2⟩)
    have HU1 : RowKit.Hid (Own w3 (g + 1) (.slice Au nl cu) l) := Lib.hid (own_mono HU.out (by have := HG10.out; omega))
    clear HU
    have n0 : w3.cell? ⟨N, 0, none⟩ = some (.slice Au nl cu) := HR3.out.cell 0
    have HN : RowKit.Hid (Calls Tryz.prog 53 #[.pointer (some ⟨g, 0, none⟩), .int .i64 4] w3.drew fun e w' => e = .returned (.int .u32 (sN : Int)) ∧ w'.cell? ⟨N, 0, none⟩ = some (.slice Au nl cu) ∧
        RowKit.Hid (FS w' g A n c b lim v (at_ + 10 + pl + 4) st text ∧ w.grownBy w' (some g) ∧ Own w' (g + 1) (.slice Au nl cu) l ∧ Row w' N #[.slice Au nl cu, .int .i64 (pl : Int), .int .i64 (sk : Int)] 88)) := Lib.hid (by
      have h := number_ok g A n c b lim v (at_ + 10 + pl) st text 4 w3.drew (HF3.out.still (grown_drewN w3 1)) (by have := HBB.out.2.2.1; omega) (by decide)
      rw [HBB.out.1, hsN] at h
      refine Calls.mono h ?_
      rintro e w' ⟨e1, e2, e3⟩
      have hg : w3.grownBy w' (some g) := (grown_any (grown_drewN w3 1) (some g)).trans e3
      have hrow := HR3.out.grown hg (fun e => by injection e with e; have := HN3.out; omega)
      exact ⟨e1, hrow.cell 0, Lib.hid ⟨e2, HG3.out.trans hg, World.ownsRow.kept HU1.out hg (.inr (fun e => by have := (World.ownsRow.lt HU1.out g e).1; omega)), hrow⟩⟩)
    have heq : sN = cN := by rw [← hsN, ← hcN]; exact hSc
    have heqz : zN = nl := by rw [← hzN, ← HNL.out.1]; exact hZc
    have HE32 : RowKit.Hid (IntKind.u32.wrap (nl : Int) = (nl : Int)) := Lib.hid (by unfold IntKind.wrap; simp [IntKind.signed, IntKind.bits]; omega)
    clear hsN hcN hzN
    subst heq
    subst heqz
    clear HU1 HF3 HG3 HR3 hSc hZc
    go_region_with (first | (refine HN.out.mono ?_; rintro e w4 ⟨rfl, n4, hF4⟩) | (refine (HCQ.out _ hF4.out.2.2.1.rd.2 hF4.out.1.tabs).mono ?_; rintro e wq ⟨rfl, rfl⟩) | (refine (gzmust_ok 6 _ _).mono ?_; rintro e wz ⟨rfl, rfl⟩))
    all_goals
      have HN2 : RowKit.Hid (∀ wx : World, FS wx g A n c b lim v (at_ + 10 + pl + 4) st text ∧ w.grownBy wx (some g) ∧ Own wx (g + 1) (.slice Au zN cu) l ∧ Row wx N #[.slice Au zN cu, .int .i64 (pl : Int), .int .i64 (sk : Int)] 88 →
          Calls Tryz.prog 53 #[.pointer (some ⟨g, 0, none⟩), .int .i64 4] wx.drew fun e w' => e = .returned (.int .u32 (zN : Int)) ∧ w'.cell? ⟨N, 0, none⟩ = some (.slice Au zN cu) ∧
            RowKit.Hid (FS w' g A n c b lim v (at_ + 10 + pl + 4 + 4) st text ∧ w.grownBy w' (some g) ∧ Own w' (g + 1) (.slice Au zN cu) l ∧ Row w' N #[.slice Au zN cu, .int .i64 (pl : Int), .int .i64 (sk : Int)] 88)) := Lib.hid (by
        rintro wx ⟨x1, x2, x3, x4⟩
        have h := number_ok g A n c b lim v (at_ + 10 + pl + 4) st text 4 wx.drew (x1.still (grown_drewN wx 1)) (by have := HBB.out.2.2.1; omega) (by decide)
        rw [HBB.out.2.1, HSN.out.2.2] at h
        refine Calls.mono h ?_
        rintro e w' ⟨e1, e2, e3⟩
        have hg : wx.grownBy w' (some g) := (grown_any (grown_drewN wx 1) (some g)).trans e3
        have hrow := x4.grown hg (fun e => by injection e with e; have := HN3.out; omega)
        exact ⟨e1, hrow.cell 0, Lib.hid ⟨e2, x2.trans hg, World.ownsRow.kept x3 hg (.inr (fun e => by have := (World.ownsRow.lt x3 g e).1; omega)), hrow⟩⟩)
      have HNN := Lib.hid (HN2.out _ hF4.out)
      have n5 : World.cell? _ ⟨N, 0, none⟩ = some (.slice Au zN cu) := hF4.out.2.2.2.cell 0
      clear HN HN2 hF4 n0 n4 HCQ
      have hm12 := Lib.hid (fun w => gzmust_ok 12 ⟨#[]⟩ w)
      have e32 := HE32.out
      go_wp2_with fail
      go_region_with (first | (refine HNN.out.mono ?_; rintro e w6 ⟨rfl, n6, hF6⟩) | (refine (hm12.out _).mono ?_; rintro e wz2 ⟨rfl, rfl⟩))
      all_goals
        have HX6 := Lib.hid hF6.out
        clear hF6 HNN
        generalize wz2 = wa at HX6 ⊢
        obtain ⟨Av, cv, hv⟩ := HX6.out.1.own.slice
        obtain ⟨tl, htl⟩ : ∃ tl, text.length = tl := ⟨_, rfl⟩
        rw [htl] at hv
        have HTL := Lib.hid (And.intro htl hv)
        have HOW : RowKit.Hid (Own wa.drew (g + 1) (.slice Av tl cv) text ∧ Rd wa.drew wa.drew.heap.size Au zN (us l) ∧ g + 1 ≤ wa.drew.heap.size ∧ text.length + zN ≤ 4000000) := Lib.hid
          ⟨by have := HX6.out.1.own; rw [hv] at this; exact this, HX6.out.2.2.1.rd.2, HX6.out.1.lt, by have h1 := HX6.out.1.tl; have h2 := HX6.out.1.lm; omega⟩
        have m2 : wa.cell? ⟨g, 2, none⟩ = some (.slice Av tl cv) := by have := HX6.out.1.row.cell 2; rw [hv] at this; exact this
        have m0 : wa.cell? ⟨N, 0, none⟩ = some (.slice Au zN cu) := HX6.out.2.2.2.cell 0
        have HFZ : RowKit.Hid (∀ w', wa.drew.grownBy w' (Value.slice Av tl cv).ownBlock → w'.frozen? ⟨g, 2, none⟩ = false ∧ w'.cell? ⟨g, 2, none⟩ = some (.slice Av tl cv)) := Lib.hid (fun w' hg => by
          have hne : some g ≠ (Value.slice Av tl cv).ownBlock := fun e => by have := (World.ownsRow.lt HOW.out.1 g e.symm).1; omega
          have hr : Row w' g _ 43 := (show Row wa.drew g _ 43 from HX6.out.1.row).grown hg hne
          exact ⟨hr.thawed 2, by have := hr.cell 2; rw [hv] at this; exact this⟩)
        clear htl hv
        go_wp2_with fail
        go_region_law ((refine stepcat wa.drew rfl (.tmp 26) (.tmp 28) rfl (g + 1) wa.drew.heap.size (.slice Av tl cv) text l Au zN cu rfl rfl HOW.out.1 HOW.out.2.1 hcz HOW.out.2.2.1 HOW.out.2.2.2 ?_); intro v7 w7 ho7 hg7 hf7; obtain ⟨A7, c7, hv7⟩ := ho7.slice; subst hv7; obtain ⟨fz7, m7⟩ := HFZ.out w7 hg7)
        all_goals
          have hg8 := grown_setCell w7 g 2 (.slice A7 (text ++ l).length c7)
          have hbel : Below g wa (w7.setCell ⟨g, 2, none⟩ (.slice A7 (text ++ l).length c7)) := ⟨hg8.os.trans hg7.os, hg8.tape.trans hg7.tape, hg8.output.trans hg7.output, Nat.le_trans hg7.size hg8.size, fun k hk => (hg8.block k (by have h1 := hg7.size; have h2 := HX6.out.1.lt; have h3 : wa.drew.heap.size = wa.heap.size := rfl; omega) (fun e => by injection e with e; omega)).trans (hg7.block k (by have h2 := HX6.out.1.lt; show k < wa.heap.size; omega) (fun e => by have := (World.ownsRow.lt HOW.out.1 k e.symm).1; omega))⟩
          have hrow7 : Row w7 g (fcells A n c (at_ + 10 + pl + 4 + 4) v lim st) 43 := (show Row wa.drew g _ 43 from HX6.out.1.row).grown hg7 (fun e => by have := (World.ownsRow.lt HOW.out.1 g e.symm).1; omega)
          have HF8 : RowKit.Hid (FS (w7.setCell ⟨g, 2, none⟩ (.slice A7 (text ++ l).length c7)) g A n c b lim (.slice A7 (text ++ l).length c7) (at_ + 10 + pl + 4 + 4) st (text ++ l)) := Lib.hid
            ⟨hrow7.set 2 _, HX6.out.1.rd.below hbel, HX6.out.1.cap, HX6.out.1.lc, HX6.out.1.form, HX6.out.1.le, World.ownsRow.kept ho7 hg8 (.inr (fun e => by have := (World.ownsRow.lt ho7 g e).1; omega)),
              HX6.out.1.tab.block (hbel.block 2 HX6.out.1.pos), HX6.out.1.tabs.below hbel (by have := HX6.out.1.pos; omega), HX6.out.1.pos, HX6.out.1.lm, by rw [List.length_append]; exact HLE.out, HX6.out.1.nn, HX6.out.1.sl⟩
          have HN8 : RowKit.Hid (Row (w7.setCell ⟨g, 2, none⟩ (.slice A7 (text ++ l).length c7)) N #[.slice Au zN cu, .int .i64 (pl : Int), .int .i64 (sk : Int)] 88) := Lib.hid
            (((show Row wa.drew N _ 88 from HX6.out.2.2.2).grown hg7 (fun e => by have := HVN.out N (by rw [HTL.out.2]; exact e.symm); omega)).grown hg8 (fun e => by injection e with e; have := HN3.out; omega))
          have HM8 : RowKit.Hid (Moves w (w7.setCell ⟨g, 2, none⟩ (.slice A7 (text ++ l).length c7)) g g v (.slice A7 (text ++ l).length c7)) := Lib.hid (by
            have hv := HTL.out.2
            have m1 : Moves w wa g g v v := Moves.grown v HX6.out.2.1 (.inr (.inl rfl))
            have m2 : Moves wa w7 g g v (.slice A7 (text ++ l).length c7) := ⟨hg7.os, hg7.tape, hg7.output, hg7.size, fun k hk _ _ h3 => hg7.block k hk (by rw [← hv]; exact h3), by rw [hv]; exact hf7⟩
            exact (m1.trans m2).trans (Moves.grown _ hg8 (.inr (.inl rfl))))
          obtain ⟨s5, hs5⟩ : ∃ s5, st + sk = s5 := ⟨_, rfl⟩
          have e5 : (st : Int) + (sk : Int) = (s5 : Int) := by omega
          have hs58 : s5 ≤ 8 * (at_ + pl) := by have h1 := HSL.out; have h2 := HSK.out; omega
          have hn6 : at_ + pl ≤ 1000000 := by have h1 := HBB.out.2.2.1; have h2 := HTX.out.2.2; omega
          have ew5 : IntKind.i64.wrap (s5 : Int) = (s5 : Int) := wrap64_in _ (by omega) (by omega)
          have HS5 := Lib.hid hs58
          clear hg8 hbel hrow7 ho7 hg7 hf7 fz7 m7 hs5 HFZ HOW HX6 m2 m0
          rw [← List.length_append]
          generalize w7.setCell ⟨g, 2, none⟩ (.slice A7 (text ++ l).length c7) = w8 at HF8 HN8 HM8 ⊢
          have g4 : w8.cell? ⟨g, 4, none⟩ = some (.int .i64 (st : Int)) := HF8.out.row.cell 4
          have fg4 := HF8.out.row.thawed 4
          have n2 : w8.cell? ⟨N, 2, none⟩ = some (.int .i64 (sk : Int)) := HN8.out.cell 2
          go_wp2_with fail
          go_region
          go_end0
          refine .inr ⟨HLE.out, rfl, _, s5, ?_, HM8.out.trans (Moves.grown _ (grown_drew (grown_setCell w8 g 4 _)) (.inr (.inl rfl)))⟩
          rw [HBB.out.2.2.2, show at_ + pl + 18 = at_ + 10 + pl + 4 + 4 by omega]
          exact (HF8.out.setSt s5 (s5 : Int) rfl (by have := HS5.out; omega)).still (grown_drewN _ 1)
end Go.Proofs.YtpnnlhegncbfaaaGreatDoor
