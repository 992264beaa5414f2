/- Contract of run. -/
import Derived.Test.YtjipjclbhdgkoaaDoorMhc
namespace Go.Proofs.YtjipjclbhdgkoaaDoor
open Go.RowKit

variable {g r H : Nat} {A : Option Addr} {n c : Nat} {l : List UInt8} {lim : Nat} {v : Value} {s : Sx}
def runAns (p : Nat × Nat) (e : Ending) (_ : World) (_ : Value) : Prop := e = .returned (.tuple #[.int .i64 (p.2 : Int), .int .i64 (p.1 : Int)])
theorem last_at {ls : List Nat} (h : 0 < ls.length) : ls[ls.length - 1]? = some (ls.getLastD 0) := by
  cases ls with
  | nil => simp at h
  | cons a t => rw [← List.getLast?_eq_getElem?, List.getLastD_eq_getLast?, List.getLast?_eq_some_getLast (by simp)]; rfl
theorem Rd.keep {w w' : World} {B : Nat} {A : Option Addr} {n : Nat} {xs : List Value} (h : Rd w B A n xs) (hk : ∀ b o, A = some ⟨b, o, none⟩ → b < B → w'.heap[b]? = w.heap[b]?) : Rd w' B A n xs := by
  refine ⟨h.1, fun hn => ?_⟩
  obtain ⟨b, o, rfl, hlt, hc⟩ := h.2 hn
  exact ⟨b, o, rfl, hlt, fun j u hu => (World.cell?_of_block (w := w) (a := ⟨b, o + j, none⟩) (hk b o rfl hlt)).trans (hc j u hu)⟩

set_option maxHeartbeats 1000000 in
set_option maxRecDepth 20000 in
theorem run16_any (ls : List Nat) (A2 : Option Addr) (c2 : Nat) (w : World) (hm : MS w g r H A n c l lim v s) (hr : Rd w w.heap.size A2 ls.length (is (ints64 ls))) (hap : ∀ b o, A2 = some ⟨b, o, none⟩ → g < b ∧ some b ≠ v.ownBlock) (hll : ls.length ≤ 1000) (hl0 : 0 < ls.length) :
    Calls Tryd.prog 64 #[.pointer (some ⟨g, 0, none⟩), .int .i64 16, .slice A2 ls.length c2] w (Out w g r H A n c l lim v (bindX (numX 2) (fun x => pureX (3 + x, ls.getLastD 0)) (bitsL l) lim s) runAns) := by
  obtain ⟨z, hz⟩ : ∃ z, ls.getLastD 0 = z := ⟨_, rfl⟩
  obtain ⟨b, o, rfl, hlt, hc⟩ := hr.2 hl0
  have hcell : w.cell? ⟨b, o + (ls.length - 1), none⟩ = some (.int .i64 (z : Int)) := hc _ _ (by unfold is ints64; rw [List.getElem?_map, List.getElem?_map, last_at hl0, hz]; rfl)
  have hab := hap b o rfl
  rw [hz]
  obtain ⟨m, hmm⟩ : ∃ m, ls.length = m := ⟨_, rfl⟩
  rw [hmm] at hcell hll hl0 ⊢
  obtain ⟨m1, hm1⟩ : ∃ m1, m - 1 = m1 := ⟨_, rfl⟩
  rw [hm1] at hcell
  have e1 : (m : Int) - 1 = (m1 : Int) := by omega
  have e2 : m1 < m := by omega
  have e3 : IntKind.i64.wrap (m1 : Int) = (m1 : Int) := wrap64_in _ (by omega) (by omega)
  have hd : decide (0 < (m : Int)) = true := decide_eq_true (by omega)
  have cD : w.drew.cell? ⟨b, o + m1, none⟩ = some (.int .i64 (z : Int)) := hcell
  have HB : RowKit.Hid (b < w.drew.heap.size) := Lib.hid hlt
  have HAB := Lib.hid (And.intro hab.1 (And.intro hab.2 hm.rg))
  have HMd := Lib.hid (hm.still (drew_grown w))
  have HGd := Lib.hid (Moves.grown (g := g) (r := r) v (drew_grown w) (.inl rfl))
  clear hz hc hab hmm hm1 hap hr hlt hm
  go_enter Tryd.func64, Tryd.ntmps64
  go_wp2_with fail
  refine (must_ok w _ (by first | rfl | (simp; omega))).mono ?_
  rintro e w1 ⟨rfl, rfl⟩
  go_wp2_with fail
  refine wp_region_any (by kernel_rfl) ?_
  change wpAny _ _ _ _ _ _ _ (World.drew _)
  generalize w.drew = wd at HMd HGd cD HB ⊢
  refine wpAny_take (i := 0) (v := ?_) rfl (by kernel_rfl) (by kernel_rfl) (by kernel_rfl) (fun _ _ _ h => h) (Or.inl ⟨by rfl, ?_⟩) ?_
  rotate_left
  · intro w
    go_simp
    try with_reducible rfl
  refine wpAny_take (i := 1) (v := ?_) rfl (by kernel_rfl) (by kernel_rfl) (by kernel_rfl) (fun _ _ _ h => h) (Or.inl ⟨by rfl, ?_⟩) ?_
  rotate_left
  · intro w
    go_simp
    try with_reducible rfl
  refine wpAny_take (i := 2) (v := ?_) rfl (by kernel_rfl) (by kernel_rfl) (by kernel_rfl) (fun _ _ _ h => h) (Or.inl ⟨by rfl, ?_⟩) ?_
  rotate_left
  · intro w
    go_simp
    try with_reducible rfl
  refine wpAny_take (i := 3) (v := ?_) rfl (by kernel_rfl) (by kernel_rfl) (by kernel_rfl) (fun _ _ _ h => h) (Or.inl ⟨by rfl, ?_⟩) ?_
  rotate_left
  · intro w
    go_simp
    try with_reducible rfl
  refine wpAny_take (i := 4) (v := ?_) rfl (by kernel_rfl) (by kernel_rfl) (by kernel_rfl) (fun _ _ _ h => h) (Or.inl ⟨by rfl, ?_⟩) ?_
  rotate_left
  · intro w
    go_simp
    try with_reducible rfl
  refine wpAny_take (i := 6) (v := ?_) rfl (by kernel_rfl) (by kernel_rfl) (by kernel_rfl) (fun _ _ _ h => h) (Or.inl ⟨by rfl, ?_⟩) ?_
  rotate_left
  · intro w
    go_simp
    try with_reducible rfl
  refine wpAny_ready (rs := [5, 7]) (by kernel_rfl) (by simp) ?_
  refine AllReady.cons rfl (fun K hK => ?_) (AllReady.cons rfl (fun K hK => ?_) AllReady.nil)
  · go_simp
    refine hK _ _ ?_
    clear hK K
    refine wpAny_ready (rs := [7]) (by kernel_rfl) (by simp) ?_
    refine AllReady.cons rfl (fun K hK => ?_) AllReady.nil
    go_simp
    go_wp2_with fail
    refine (mnum_any 2 (by omega) wd HMd.out).mono ?_
    rintro e w2 (⟨y, s2, v2, hx2, hm2, hg2, he2⟩ | ⟨k2, b2, v2, hx2, rfl, hb2, hc2, hg2⟩)
    rotate_left
    · exact ⟨rfl, Out.passed HGd.out (err_bind hx2) hb2 hc2 hg2⟩
    obtain rfl := he2
    have c2D : w2.cell? ⟨b, o + m1, none⟩ = some (.int .i64 (z : Int)) := (World.cell?_of_block (w := wd) (a := ⟨b, o + m1, none⟩) (hg2.block b HB.out (by have := HAB.out; omega) (by have := HAB.out; omega) HAB.out.2.1)).trans cD
    have hy : y < 4 := num_lt hx2
    have E5 : RowKit.Hid (IntKind.i64.wrap (3 + (y : Int)) = 3 + (y : Int)) := Lib.hid (wrap64_in _ (by omega) (by omega))
    have HG2 := Lib.hid (HGd.out.trans hg2)
    have HM2 := Lib.hid hm2
    have HX2 := Lib.hid hx2
    clear hm2 hg2 hx2
    go_simp
    refine hK _ _ ?_
    clear hK K
    refine wpAny_take (i := 8) (v := ?_) rfl (by kernel_rfl) (by kernel_rfl) (by kernel_rfl) (fun _ _ _ h => h) (Or.inl ⟨by rfl, ?_⟩) ?_
    rotate_left
    · intro w
      go_simp
      try with_reducible rfl
    refine wpAny_take (i := 9) (v := ?_) rfl (by kernel_rfl) (by kernel_rfl) (by kernel_rfl) (fun _ _ _ h => h) (Or.inl ⟨by rfl, ?_⟩) ?_
    rotate_left
    · intro w
      go_simp
      try with_reducible rfl
    refine wpAny_take (i := 10) (v := ?_) rfl (by kernel_rfl) (by kernel_rfl) (by kernel_rfl) (fun _ _ _ h => h) (Or.inl ⟨by rfl, ?_⟩) ?_
    rotate_left
    · intro w
      go_simp
      try with_reducible rfl
    refine wpAny_done (by kernel_rfl) ?_ _
    go_wp2_with fail
    go_ret2
    exact .inl ⟨(3 + y, z), s2, v2, ok_bind HX2.out rfl, HM2.out, HG2.out, by unfold runAns; simp [Act.put, E5.out]⟩
  · go_simp
    go_wp2_with fail
    refine (mnum_any 2 (by omega) wd HMd.out).mono ?_
    rintro e w2 (⟨y, s2, v2, hx2, hm2, hg2, he2⟩ | ⟨k2, b2, v2, hx2, rfl, hb2, hc2, hg2⟩)
    rotate_left
    · exact ⟨rfl, Out.passed HGd.out (err_bind hx2) hb2 hc2 hg2⟩
    obtain rfl := he2
    have c2D : w2.cell? ⟨b, o + m1, none⟩ = some (.int .i64 (z : Int)) := (World.cell?_of_block (w := wd) (a := ⟨b, o + m1, none⟩) (hg2.block b HB.out (by have := HAB.out; omega) (by have := HAB.out; omega) HAB.out.2.1)).trans cD
    have hy : y < 4 := num_lt hx2
    have E5 : RowKit.Hid (IntKind.i64.wrap (3 + (y : Int)) = 3 + (y : Int)) := Lib.hid (wrap64_in _ (by omega) (by omega))
    have HG2 := Lib.hid (HGd.out.trans hg2)
    have HM2 := Lib.hid hm2
    have HX2 := Lib.hid hx2
    clear hm2 hg2 hx2
    go_simp
    refine hK _ _ ?_
    clear hK K
    refine wpAny_take (i := 8) (v := ?_) rfl (by kernel_rfl) (by kernel_rfl) (by kernel_rfl) (fun _ _ _ h => h) (Or.inl ⟨by rfl, ?_⟩) ?_
    rotate_left
    · intro w
      go_simp
      try with_reducible rfl
    refine wpAny_ready (rs := [5]) (by kernel_rfl) (by simp) ?_
    refine AllReady.cons rfl (fun K hK => ?_) AllReady.nil
    go_simp
    refine hK _ _ ?_
    clear hK K
    refine wpAny_take (i := 9) (v := ?_) rfl (by kernel_rfl) (by kernel_rfl) (by kernel_rfl) (fun _ _ _ h => h) (Or.inl ⟨by rfl, ?_⟩) ?_
    rotate_left
    · intro w
      go_simp
      try with_reducible rfl
    refine wpAny_take (i := 10) (v := ?_) rfl (by kernel_rfl) (by kernel_rfl) (by kernel_rfl) (fun _ _ _ h => h) (Or.inl ⟨by rfl, ?_⟩) ?_
    rotate_left
    · intro w
      go_simp
      try with_reducible rfl
    refine wpAny_done (by kernel_rfl) ?_ _
    go_wp2_with fail
    go_ret2
    exact .inl ⟨(3 + y, z), s2, v2, ok_bind HX2.out rfl, HM2.out, HG2.out, by unfold runAns; simp [Act.put, E5.out]⟩

set_option maxHeartbeats 1000000 in
theorem run17_any (A2 : Option Addr) (m c2 : Nat) (w : World) (hm : MS w g r H A n c l lim v s) :
    Calls Tryd.prog 64 #[.pointer (some ⟨g, 0, none⟩), .int .i64 17, .slice A2 m c2] w (Out w g r H A n c l lim v (bindX (numX 3) (fun x => pureX (3 + x, 0)) (bitsL l) lim s) runAns) := by
  have HM := Lib.hid hm
  clear hm
  go_enter Tryd.func64, Tryd.ntmps64
  go_wp2_with fail
  refine (mnum_any 3 (by omega) w HM.out).mono ?_
  rintro e w2 (⟨y, s2, v2, hx2, hm2, hg2, he2⟩ | ⟨k2, b2, v2, hx2, rfl, hb2, hc2, hg2⟩)
  rotate_left
  · exact ⟨rfl, Out.passed (Moves.refl w g r v) (err_bind hx2) hb2 hc2 hg2⟩
  obtain rfl := he2
  have hy : y < 2 ^ 3 := num_lt hx2
  have hy2 : y < 128 := Nat.lt_of_lt_of_le hy (by decide)
  have HG2 := Lib.hid hg2
  have HM2 := Lib.hid hm2
  have HX2 := Lib.hid hx2
  clear hm2 hg2 hx2 hy
  go_wp2_with fail
  go_ret2
  exact .inl ⟨(3 + y, 0), s2, v2, ok_bind HX2.out rfl, HM2.out, HG2.out, by unfold runAns; simp⟩

set_option maxHeartbeats 1000000 in
theorem run18_any (A2 : Option Addr) (m c2 : Nat) (w : World) (hm : MS w g r H A n c l lim v s) :
    Calls Tryd.prog 64 #[.pointer (some ⟨g, 0, none⟩), .int .i64 18, .slice A2 m c2] w (Out w g r H A n c l lim v (bindX (numX 7) (fun x => pureX (11 + x, 0)) (bitsL l) lim s) runAns) := by
  have HM := Lib.hid hm
  clear hm
  go_enter Tryd.func64, Tryd.ntmps64
  go_wp2_with fail
  refine (mnum_any 7 (by omega) w HM.out).mono ?_
  rintro e w2 (⟨y, s2, v2, hx2, hm2, hg2, he2⟩ | ⟨k2, b2, v2, hx2, rfl, hb2, hc2, hg2⟩)
  rotate_left
  · exact ⟨rfl, Out.passed (Moves.refl w g r v) (err_bind hx2) hb2 hc2 hg2⟩
  obtain rfl := he2
  have hy : y < 2 ^ 7 := num_lt hx2
  have hy2 : y < 128 := Nat.lt_of_lt_of_le hy (by decide)
  have HG2 := Lib.hid hg2
  have HM2 := Lib.hid hm2
  have HX2 := Lib.hid hx2
  clear hm2 hg2 hx2 hy
  go_wp2_with fail
  go_ret2
  exact .inl ⟨(11 + y, 0), s2, v2, ok_bind HX2.out rfl, HM2.out, HG2.out, by unfold runAns; simp⟩

set_option maxHeartbeats 1000000 in
theorem run_any (x : Nat) (hx : x ≤ 400) (ls : List Nat) (A2 : Option Addr) (c2 : Nat) (w : World) (hm : MS w g r H A n c l lim v s) (hr : Rd w w.heap.size A2 ls.length (is (ints64 ls))) (hap : ∀ b o, A2 = some ⟨b, o, none⟩ → g < b ∧ some b ≠ v.ownBlock) (hll : ls.length ≤ 1000) :
    Calls Tryd.prog 64 #[.pointer (some ⟨g, 0, none⟩), .int .i64 (x : Int), .slice A2 ls.length c2] w (Out w g r H A n c l lim v (runX x ls (bitsL l) lim s) runAns) := by
  unfold runX
  by_cases h16 : x = 16
  · subst h16
    rw [if_pos rfl]
    by_cases h0 : ls.length = 0
    · rw [if_pos h0, h0]
      clear hr hap hll hm
      go_enter Tryd.func64, Tryd.ntmps64
      go_wp2_with fail
      refine (must_no w _ rfl).mono ?_
      rintro e w1 ⟨rfl, rfl⟩
      exact ⟨rfl, Out.thrown rfl (Moves.refl w g r v) 2 rfl⟩
    · rw [if_neg h0]
      exact run16_any ls A2 c2 w hm hr hap hll (by omega)
  · rw [if_neg h16]
    by_cases h17 : x = 17
    · subst h17
      rw [if_pos rfl]
      exact run17_any A2 ls.length c2 w hm
    · rw [if_neg h17]
      by_cases h18 : x = 18
      · subst h18
        rw [if_pos rfl]
        exact run18_any A2 ls.length c2 w hm
      · rw [if_neg h18]
        have d1 : ((x : Int) == 16) = false := by rw [beq_eq_false_iff_ne]; omega
        have d2 : ((x : Int) == 17) = false := by rw [beq_eq_false_iff_ne]; omega
        have d3 : ((x : Int) == 18) = false := by rw [beq_eq_false_iff_ne]; omega
        have HM := Lib.hid hm
        clear hm hr hap hll hx
        generalize ls.length = m
        go_enter Tryd.func64, Tryd.ntmps64
        go_wp2_with fail
        go_ret2
        exact .inl ⟨(1, x), s, v, rfl, HM.out, Moves.refl w g r v, rfl⟩
end Go.Proofs.YtjipjclbhdgkoaaDoor
