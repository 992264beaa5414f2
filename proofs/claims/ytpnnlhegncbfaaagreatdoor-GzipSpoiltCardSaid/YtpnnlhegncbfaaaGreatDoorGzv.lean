/- Contract of a file's member whose sum is wrong. -/
import Derived.Test.YtpnnlhegncbfaaaGreatDoorGzm
namespace Go.Proofs.YtpnnlhegncbfaaaGreatDoor
set_option maxRecDepth 20000
open Go.RowKit

set_option maxHeartbeats 8000000 in
theorem member_sum (g : Nat) (A : Option Addr) (n c : Nat) (b R : List UInt8) (lim : Nat) (v : Value) (at_ st : Nat) (text l S Z : List UInt8) (z : Int) (w : World) (h : FS w g A n c b lim v at_ st text)
    (hb : b.drop at_ = memB l z S Z ++ R) (hS : S.length = 4) (hZ : Z.length = 4) (hl : l.length ≤ 30000) (hle0 : text.length + l.length ≤ lim) (hSc : numL S ≠ (addP 0 l).toNat) :
    Calls Tryz.prog 39 #[.pointer (some ⟨g, 0, none⟩)] w (ThrownM w g v 6) := by
  obtain ⟨pl, hpl⟩ : ∃ pl, (packT l z).length = pl := ⟨_, rfl⟩
  have hlen : at_ + pl + 18 ≤ n := by
    have h1 := congrArg List.length hb
    have h0 : headB.length = 10 := rfl
    unfold memB at h1
    simp only [List.length_drop, List.length_append, h.len, hS, hZ, h0, hpl] at h1
    omega
  have hb1 : b.drop (at_ + 10) = packT l z ++ (S ++ (Z ++ R)) := by
    rw [← List.drop_drop, hb]
    unfold memB
    simp only [List.append_assoc]
    exact List.drop_left' rfl
  have hb2 : (b.drop (at_ + 10 + pl)).take 4 = S := by
    rw [← List.drop_drop, hb1, List.drop_left' hpl, List.take_left' hS]
  have hb3 : (b.drop (at_ + 10 + pl + 4)).take 4 = Z := by
    rw [← List.drop_drop, ← List.drop_drop, hb1, List.drop_left' hpl, List.drop_left' hS, List.take_left' hZ]
  have HH := Lib.hid (head_ok g A n c b (packT l z ++ (S ++ (Z ++ R))) lim v at_ st text w h (by rw [hb]; unfold memB; simp only [List.append_assoc]))
  have HIP := Lib.hid (infl_pack (l := l) (by omega) z (S ++ (Z ++ R)) (lim - text.length))
  rw [← hb1, hpl] at HIP
  have HBB := Lib.hid (And.intro hb2 (And.intro hb3 (And.intro hlen hpl)))
  have HTX : RowKit.Hid (text.length ≤ lim ∧ lim ≤ 1048576 ∧ n ≤ 1000000) := Lib.hid ⟨h.tl, h.lm, h.nn⟩
  have HGW : RowKit.Hid (g < w.heap.size) := Lib.hid h.lt
  have HSL : RowKit.Hid (st ≤ 8 * at_) := Lib.hid h.sl
  clear hb hb1 hb2 hb3 hlen hpl h
  go_enter Tryz.func39, Tryz.ntmps39
  go_wp2_with fail
  refine HH.out.mono ?_
  rintro e w1 ⟨rfl, hf1, hg1⟩
  have HG1 := Lib.hid hg1
  have HPK := Lib.hid (packed_any g A n c b lim v (at_ + 10) st text w1 hf1)
  clear hf1 hg1 HH
  go_wp2_with fail
  refine HPK.out.mono ?_
  rintro e w2 (⟨k, hk, q, rfl, hc, hgq, hq, hq2⟩ | ⟨s, u, hs, rfl, hu, hf2, hg2⟩)
  · have hk3 : lim < text.length + l.length ∧ k = 3 := by
      by_cases hlt : lim - text.length < l.length
      · rw [HIP.out.1 hlt] at hk
        injection hk with hk
        exact ⟨by have := HTX.out.1; omega, hk.symm⟩
      · obtain ⟨s, h1, _⟩ := HIP.out.2 (by omega)
        rw [h1] at hk; cases hk
    omega
  · have hle : text.length + l.length ≤ lim := by
      by_cases hlt : lim - text.length < l.length
      · rw [HIP.out.1 hlt] at hs; cases hs
      · have := HTX.out.1; omega
    obtain ⟨s', h1, h2, h3⟩ := HIP.out.2 (by omega)
    rw [h1] at hs
    injection hs with hs
    injection hs with _ hs
    subst hs
    rw [h2] at hu
    rw [h3] at hf2
    have HLE := Lib.hid hle
    obtain ⟨us, hus⟩ : ∃ us, (s'.pos + 7) / 8 = us := ⟨_, rfl⟩
    obtain ⟨sk, hsk⟩ : ∃ sk, s'.steps = sk := ⟨_, rfl⟩
    obtain ⟨Au, cu, rfl⟩ := hu.slice
    obtain ⟨nl, hnl⟩ : ∃ nl, l.length = nl := ⟨_, rfl⟩
    rw [hus, hsk, hnl]
    rw [hnl] at hu
    have HNL := Lib.hid (And.intro hnl (And.intro (h3.symm.trans hus) (infl_bounds (bits_of _) h1).2.2.2))
    have hcz : Au = none → cu = 0 := noCap' hu
    have HU := Lib.hid (World.ownsRow.alloc hu (.cells #[.slice Au nl cu, .int .i64 (us : Int), .int .i64 (sk : Int)] 88))
    have HF3 := Lib.hid (hf2.still (World.grownBy_alloc w2 (.cells #[.slice Au nl cu, .int .i64 (us : Int), .int .i64 (sk : Int)] 88) none))
    have HR3 : RowKit.Hid (Row (w2.alloc (.cells #[.slice Au nl cu, .int .i64 (us : Int), .int .i64 (sk : Int)] 88)) w2.heap.size #[.slice Au nl cu, .int .i64 (us : Int), .int .i64 (sk : Int)] 88) := Lib.hid (Row.new w2 _ _)
    have HG3 : RowKit.Hid (w.grownBy (w2.alloc (.cells #[.slice Au nl cu, .int .i64 (us : Int), .int .i64 (sk : Int)] 88)) (some g)) := Lib.hid ((HG1.out.trans hg2).trans (World.grownBy_alloc w2 _ (some g)))
    have HN3 : RowKit.Hid (g < w2.heap.size) := Lib.hid hf2.lt
    have HVN : RowKit.Hid (∀ k, v.ownBlock = some k → k < w2.heap.size) := Lib.hid (fun k hk => (World.ownsRow.lt hf2.own k hk).2)
    have HSK : RowKit.Hid (sk ≤ 8 * us) := Lib.hid (by have := (infl_bounds (bits_of _) h1).2.2.2; omega)
    have HG10 : RowKit.Hid (g < w1.heap.size) := Lib.hid (Nat.lt_of_lt_of_le HGW.out HG1.out.size)
    clear hu hf2 hg2 h1 h2 h3 hus hsk hnl hle HPK HIP HG1
    go_wp2_with fail
    generalize w2.alloc (.cells #[.slice Au nl cu, .int .i64 (us : Int), .int .i64 (sk : Int)] 88) = w3 at HU HF3 HR3 HG3 ⊢
    generalize w2.heap.size = N at HR3 HN3 HVN ⊢
    have hplus : pl = us := HNL.out.2.1
    subst hplus
    obtain ⟨sN, hsN⟩ : ∃ sN, numL S = sN := ⟨_, rfl⟩
    obtain ⟨cN, hcN⟩ : ∃ cN, (addP 0 l).toNat = cN := ⟨_, rfl⟩
    obtain ⟨zN, hzN⟩ : ∃ zN, numL Z = zN := ⟨_, rfl⟩
    have HSN := Lib.hid (And.intro hsN (And.intro hcN hzN))
    have hbig : nl ≤ 30000 := by rw [← HNL.out.1]; exact hl
    have HCQ : RowKit.Hid (∀ wx : World, Rd wx wx.heap.size Au nl (us l) → Tabs wx → Calls Tryz.prog 22 #[.slice Au nl cu] wx fun e w' => e = .returned (.int .u32 (cN : Int)) ∧ w' = wx) := Lib.hid (fun wx h1 h2 => (cof_any Au nl cu l wx h1 h2 (by omega)).mono fun e w' ⟨e1, e2⟩ => ⟨by rw [e1, ← hcN], e2⟩)
    have HU1 : RowKit.Hid (Own w3 (g + 1) (.slice Au nl cu) l) := Lib.hid (own_mono HU.out (by have := HG10.out; omega))
    clear HU
    have n0 : w3.cell? ⟨N, 0, none⟩ = some (.slice Au nl cu) := HR3.out.cell 0
    have HN : RowKit.Hid (Calls Tryz.prog 53 #[.pointer (some ⟨g, 0, none⟩), .int .i64 4] w3.drew fun e w' => e = .returned (.int .u32 (sN : Int)) ∧ w'.cell? ⟨N, 0, none⟩ = some (.slice Au nl cu) ∧
        RowKit.Hid (FS w' g A n c b lim v (at_ + 10 + pl + 4) st text ∧ w.grownBy w' (some g) ∧ Own w' (g + 1) (.slice Au nl cu) l ∧ Row w' N #[.slice Au nl cu, .int .i64 (pl : Int), .int .i64 (sk : Int)] 88)) := Lib.hid (by
      have h := number_ok g A n c b lim v (at_ + 10 + pl) st text 4 w3.drew (HF3.out.still (grown_drewN w3 1)) (by have := HBB.out.2.2.1; omega) (by decide)
      rw [HBB.out.1, hsN] at h
      refine Calls.mono h ?_
      rintro e w' ⟨e1, e2, e3⟩
      have hg : w3.grownBy w' (some g) := (grown_any (grown_drewN w3 1) (some g)).trans e3
      have hrow := HR3.out.grown hg (fun e => by injection e with e; have := HN3.out; omega)
      exact ⟨e1, hrow.cell 0, Lib.hid ⟨e2, HG3.out.trans hg, World.ownsRow.kept HU1.out hg (.inr (fun e => by have := (World.ownsRow.lt HU1.out g e).1; omega)), hrow⟩⟩)
    have hneq : ((sN : Int) == (cN : Int)) = false := by
      rw [beq_eq_false_iff_ne]
      intro h
      exact hSc (by rw [hsN, hcN]; omega)
    have HE32 : RowKit.Hid (IntKind.u32.wrap (nl : Int) = (nl : Int)) := Lib.hid (by unfold IntKind.wrap; simp [IntKind.signed, IntKind.bits]; omega)
    clear hsN hcN hzN
    have HMN := Lib.hid (fun w => gzmust_no 6 ⟨#[]⟩ w)
    clear HU1 HF3 HG3 HR3 hSc hle0
    refine wp_region_any (by kernel_rfl) ?_
    change wpAny _ _ _ _ _ _ _ (World.drew _)
    refine wpAny_take (i := 0) (v := ?_) rfl (by kernel_rfl) (by kernel_rfl) (by kernel_rfl) (fun _ _ _ h => h) (Or.inl ⟨by rfl, ?_⟩) ?_
    rotate_left
    · intro w
      go_simp
      try with_reducible rfl
    refine wpAny_take (i := 2) (v := ?_) rfl (by kernel_rfl) (by kernel_rfl) (by kernel_rfl) (fun _ _ _ h => h) (Or.inl ⟨by rfl, ?_⟩) ?_
    rotate_left
    · intro w
      go_simp
      try with_reducible rfl
    refine wpAny_ready (rs := [1, 3]) (by kernel_rfl) (by simp) ?_
    refine AllReady.cons rfl (fun K hK => ?_) (AllReady.cons rfl (fun K hK => ?_) AllReady.nil)
    · go_simp
      refine HN.out.mono ?_
      rintro e w4 ⟨rfl, n4, hF4⟩
      go_simp
      refine hK _ _ ?_
      clear hK K
      refine wpAny_ready (rs := [3]) (by kernel_rfl) (by simp) ?_
      refine AllReady.cons rfl (fun K hK => ?_) AllReady.nil
      go_simp
      refine hK _ _ ?_
      clear hK K
      refine wpAny_ready (rs := [4]) (by kernel_rfl) (by simp) ?_
      refine AllReady.cons rfl (fun K hK => ?_) AllReady.nil
      go_simp
      refine (HCQ.out _ hF4.out.2.2.1.rd.2 hF4.out.1.tabs).mono ?_
      rintro e wq ⟨rfl, rfl⟩
      go_simp
      refine hK _ _ ?_
      clear hK K
      refine wpAny_take (i := 5) (v := ?_) rfl (by kernel_rfl) (by kernel_rfl) (by kernel_rfl) (fun _ _ _ h => h) (Or.inl ⟨by rfl, ?_⟩) ?_
      rotate_left
      · intro w
        go_simp
        try with_reducible rfl
      refine wpAny_ready (rs := [6]) (by kernel_rfl) (by simp) ?_
      refine AllReady.cons rfl (fun K hK => ?_) AllReady.nil
      go_simp
      refine (HMN.out _).mono ?_
      rintro e w6 ⟨q, rfl, h1, h2, h3, h4⟩
      exact ⟨rfl, q, v, rfl, h1, (Moves.grown v hF4.out.2.1 (.inr (.inl rfl))).trans (Moves.grown v h2 (.inl rfl)), Nat.le_trans hF4.out.2.1.size h3⟩
    · go_simp
      refine hK _ _ ?_
      clear hK K
      refine wpAny_ready (rs := [1]) (by kernel_rfl) (by simp) ?_
      refine AllReady.cons rfl (fun K hK => ?_) AllReady.nil
      go_simp
      refine HN.out.mono ?_
      rintro e w4 ⟨rfl, n4, hF4⟩
      go_simp
      refine hK _ _ ?_
      clear hK K
      refine wpAny_ready (rs := [4]) (by kernel_rfl) (by simp) ?_
      refine AllReady.cons rfl (fun K hK => ?_) AllReady.nil
      go_simp
      refine (HCQ.out _ hF4.out.2.2.1.rd.2 hF4.out.1.tabs).mono ?_
      rintro e wq ⟨rfl, rfl⟩
      go_simp
      refine hK _ _ ?_
      clear hK K
      refine wpAny_take (i := 5) (v := ?_) rfl (by kernel_rfl) (by kernel_rfl) (by kernel_rfl) (fun _ _ _ h => h) (Or.inl ⟨by rfl, ?_⟩) ?_
      rotate_left
      · intro w
        go_simp
        try with_reducible rfl
      refine wpAny_ready (rs := [6]) (by kernel_rfl) (by simp) ?_
      refine AllReady.cons rfl (fun K hK => ?_) AllReady.nil
      go_simp
      refine (HMN.out _).mono ?_
      rintro e w6 ⟨q, rfl, h1, h2, h3, h4⟩
      exact ⟨rfl, q, v, rfl, h1, (Moves.grown v hF4.out.2.1 (.inr (.inl rfl))).trans (Moves.grown v h2 (.inl rfl)), Nat.le_trans hF4.out.2.1.size h3⟩
end Go.Proofs.YtpnnlhegncbfaaaGreatDoor
