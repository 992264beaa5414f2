/- Contract of helperCode. -/
import Derived.Test.YtjipjclbhdgkoaaDoorMfx
import Derived.Test.YtjipjclbhdgkoaaDoorGroupF
namespace Go.Proofs.YtjipjclbhdgkoaaDoor
open Go.RowKit

variable {g r H : Nat} {A : Option Addr} {n c : Nat} {l : List UInt8} {lim : Nat} {v : Value} {s : Sx}
theorem num_step {k : Nat} {L : List UInt8} {y : Nat} {s2 : Sx} (h : numX k L lim s = .ok (y, s2)) : numX k L lim ⟨s.pos, s.out, s.steps + 1⟩ = .ok (y, ⟨s2.pos, s2.out, s2.steps + 1⟩) := by
  unfold numX at h ⊢
  split at h
  · cases h
  · rename_i hl
    rw [if_neg hl]
    injection h with h
    injection h with h1 h2
    subst h1 h2
    rfl
theorem num_step_no {k e : Nat} {L : List UInt8} (h : numX k L lim s = .error e) : numX k L lim ⟨s.pos, s.out, s.steps + 1⟩ = .error e := by
  unfold numX at h ⊢
  split at h
  · rename_i hl
    rw [if_pos hl]
    exact h
  · cases h
theorem err_bind {α β : Type} {f : X α} {h : α → X β} {L : List UInt8} {e : Nat} (hf : f L lim s = .error e) : bindX f h L lim s = .error e := by
  unfold bindX; rw [hf]
theorem help_more {m j y : Nat} {h : List Nat} {L : List UInt8} {s2 : Sx} (hx : numX 3 L lim s = .ok (y, s2)) : helpX (m + 1) j h L lim s = helpX m (j + 1) (h.set (places.getD j 0) y) L lim ⟨s2.pos, s2.out, s2.steps + 1⟩ :=
  ok_bind (f := stepX) rfl (ok_bind (num_step hx) rfl)
theorem help_no {m j e : Nat} {h : List Nat} {L : List UInt8} (hx : numX 3 L lim s = .error e) : helpX (m + 1) j h L lim s = .error e :=
  ok_bind (f := stepX) rfl (err_bind (num_step_no hx))
theorem bind_same {α β : Type} {f f' : X α} {h : α → X β} {L : List UInt8} {s' : Sx} (hf : f L lim s = f' L lim s') : bindX f h L lim s = bindX f' h L lim s' := by
  unfold bindX; rw [hf]
/-- The helpers' code. -/
def helperK (h : List Nat) : X (List Nat) := if right h false = false then failX 2 else pureX h
def helperX (k : Nat) : X (List Nat) := bindX (helpX k 0 (List.replicate 19 0)) helperK
def codeAns (g : Nat) (h : List Nat) (e : Ending) (w' : World) (v' : Value) : Prop := h.length = 19 ∧ ∃ a, e = .returned (.pointer (some ⟨a, 0, none⟩)) ∧ CDH w' w'.heap.size g v' a h
theorem info110 : (Tryd.prog.info? 110).map (fun i => (i.zero, i.size)) = some (some (.agg (ia (fun _ => 0) 19)), 19) := by kernel_rfl
theorem places_lt : ∀ j, j < 19 → places.getD j 0 < 19 := by decide
theorem places_len : places.length = 19 := rfl
structure HelpI (w wr : World) (g r H : Nat) (A : Option Addr) (n c : Nat) (l : List UInt8) (lim q k : Nat) (v v' : Value) (X : Except Nat (List Nat × Sx)) (j : Nat) (s' : Sx) (h : List Nat) (f : Nat → Nat) : Prop where
  ms : MS wr g r H A n c l lim v' s'
  mv : Moves w wr g r v v'
  row : Row wr q (ia f 19) 110
  ap : some q ≠ v'.ownBlock
  len : h.length = 19
  low : Low h
  at_ : ∀ i, i < 19 → f i = h.getD i 0
  hx : bindX (helpX (k - j) j h) helperK (bitsL l) lim s' = X
theorem low_set {h : List Nat} (hl : Low h) (i : Nat) {y : Nat} (hy : y ≤ 15) : Low (h.set i y) := fun x hx => by
  rcases List.mem_or_eq_of_mem_set hx with h1 | h1
  · exact hl x h1
  · rw [h1]; exact hy
theorem ia_ints {h : List Nat} {f : Nat → Nat} {m : Nat} (hl : h.length = m) (hf : ∀ i, i < m → f i = h.getD i 0) : (ia f m).toList = is (ints64 h) := by
  apply List.ext_getElem?
  intro i
  rcases Nat.lt_or_ge i m with h1 | h1
  · rw [Array.getElem?_toList, ia_at _ h1, hf i h1]
    simp only [is, ints64, List.getElem?_map, List.getElem?_eq_getElem (show i < h.length by omega), Option.map_some, List.getD_eq_getElem?_getD, Option.getD_some]
    rfl
  · rw [List.getElem?_eq_none (by rw [Array.length_toList, ia_size]; exact h1), List.getElem?_eq_none (by rw [is_length, ints_length]; omega)]

set_option maxHeartbeats 1000000 in
set_option maxRecDepth 20000 in
theorem helper_any (k : Nat) (hk : k ≤ 19) (w : World) (hm : MS w g r H A n c l lim v s) :
    Calls Tryd.prog 59 #[.pointer (some ⟨g, 0, none⟩), .int .i64 (k : Int)] w (Out w g r H A n c l lim v (helperX k (bitsL l) lim s) (codeAns g)) := by
  obtain ⟨X, HX⟩ : ∃ X, RowKit.Hid (helperX k (bitsL l) lim s = X) := ⟨_, Lib.hid rfl⟩
  rw [HX.out]
  have HM := Lib.hid hm
  clear hm
  go_enter Tryd.func59, Tryd.ntmps59
  go_wp2_with (with_reducible refine halt_alloc 110 ?_)
  refine Lib.hid ?_
  refine alloc_row rfl 110 rfl (ia (fun _ => 0) 19) 19 info110 ?_
  intro w1 r1 g1 s1
  have hI : HelpI w w1 g r H A n c l lim w.heap.size k v v X 0 s (List.replicate 19 0) (fun _ => 0) :=
    ⟨HM.out.still g1, Moves.grown v g1 (.inl rfl), r1, fun e => by have := (HM.out.ownLt e.symm).2; omega, by simp, fun x hx => by rw [List.eq_of_mem_replicate hx]; decide, fun i hi => by rw [List.getD_eq_getElem?_getD, List.getElem?_replicate, if_pos hi]; rfl, HX.out⟩
  have HQ : RowKit.Hid (H ≤ w.heap.size ∧ g < w.heap.size ∧ r < w.heap.size) := Lib.hid ⟨HM.out.hs, HM.out.lt, HM.out.rrow.lt⟩
  have HW : RowKit.Hid (w.heap.size ≤ w.heap.size) := Lib.hid (Nat.le_refl _)
  have HI := Lib.hid hI
  clear hI r1 g1 s1
  generalize hq : w.heap.size = q at HI HQ ⊢
  rw [hq] at HW
  have HWQ : RowKit.Hid (w.heap.size ≤ q) := Lib.hid (Nat.le_of_eq hq)
  clear hq HW
  go_wp2_with fail
  go_loopw [8] (fun i wr => ∃ (j : Nat) (v' : Value) (s' : Sx) (h : List Nat) (f : Nat → Nat), j ≤ k ∧ i = .int .i64 (j : Int) ∧ HelpI w wr g r H A n c l lim q k v v' X j s' h f) (fun i _ => k - (intOf i).toNat)
  case atStart => exact ⟨0, v, s, _, _, Nat.zero_le _, rfl, HI.out⟩
  case round =>
    clear HI
    obtain ⟨j, v', s', h, f, hj, rfl, hI⟩ := hrel
    by_cases hlt : j < k
    · have hd : decide ((j : Int) < (k : Int)) = true := decide_eq_true (by omega)
      have HI := Lib.hid hI
      obtain ⟨p, hp⟩ : ∃ p, places.getD j 0 = p := ⟨_, rfl⟩
      have hp19 : p < 19 := by rw [← hp]; exact places_lt j (by omega)
      have HP := Lib.hid hp
      have hMd := hI.ms.still (drew_grown wr)
      have hGd := hI.mv.trans (Moves.grown (g := g) (r := r) v' (drew_grown wr) (.inl rfl))
      have hRd : Row wr.drew q (ia f 19) 110 := hI.row
      have cT : wr.drew.cell? ⟨0, j, none⟩ = some (.int .i64 (p : Int)) := by rw [← hp]; exact hMd.tab j (by omega)
      have HMd := Lib.hid hMd
      have HGd := Lib.hid hGd
      have HRd := Lib.hid hRd
      have hj19 : j < 19 := by omega
      have hj19i : (j : Int) < 19 := by omega
      have hp19i : (p : Int) < 19 := by omega
      clear hI hp hMd hGd hRd
      go_wp2_with fail
      refine wp_region_any (by kernel_rfl) ?_
      change wpAny _ _ _ _ _ _ _ (World.drew _)
      generalize wr.drew = wd at HMd HGd HRd cT ⊢
      refine wpAny_take (i := 0) (v := ?_) rfl (by kernel_rfl) (by kernel_rfl) (by kernel_rfl) (fun _ _ _ h => h) (Or.inl ⟨by rfl, ?_⟩) ?_
      rotate_left
      · intro w
        go_simp
        try with_reducible rfl
      refine wpAny_take (i := 1) (v := ?_) rfl (by kernel_rfl) (by kernel_rfl) (by kernel_rfl) (fun _ _ _ h => h) (Or.inl ⟨by rfl, ?_⟩) ?_
      rotate_left
      · intro w
        go_simp
        try with_reducible rfl
      refine wpAny_take (i := 3) (v := ?_) rfl (by kernel_rfl) (by kernel_rfl) (by kernel_rfl) (fun _ _ _ h => h) (Or.inl ⟨by rfl, ?_⟩) ?_
      rotate_left
      · intro w
        go_simp
        try with_reducible rfl
      refine wpAny_ready (rs := [2, 4]) (by kernel_rfl) (by simp) ?_
      refine AllReady.cons rfl (fun K hK => ?_) (AllReady.cons rfl (fun K hK => ?_) AllReady.nil)
      · go_simp
        refine hK _ _ ?_
        clear hK K
        refine wpAny_ready (rs := [4]) (by kernel_rfl) (by simp) ?_
        refine AllReady.cons rfl (fun K hK => ?_) AllReady.nil
        go_simp
        go_wp2_with fail
        refine (mnum_any 3 (by omega) wd HMd.out).mono ?_
        rintro e w2 (⟨y, s2, v2, hx2, hm2, hg2, he2⟩ | ⟨k2, b2, v2, hx2, rfl, hb2, hc2, hg2⟩)
        rotate_left
        · refine ⟨rfl, Out.passed HGd.out ?_ hb2 hc2 hg2⟩
          rw [← HI.out.hx, show k - j = (k - (j + 1)) + 1 by omega]
          exact err_bind (help_no hx2)
        obtain rfl := he2
        have cT2 : w2.cell? ⟨0, j, none⟩ = some (.int .i64 (p : Int)) := by rw [← HP.out]; exact hm2.tab j hj19
        have hap := hg2.apart HRd.out.lt HI.out.ap
        have hr2 : Row w2 q (ia f 19) 110 := by
          unfold Row
          rw [hg2.block q HRd.out.lt (by have := HQ.out; have := HWQ.out; omega) (by have := HQ.out; have := HWQ.out; omega) HI.out.ap]
          exact HRd.out
        have hy : y < 8 := num_lt hx2
        have cq := hr2.ia hp19
        have fq := hr2.thawed p
        have HG2 := Lib.hid (HGd.out.trans hg2)
        have HM2 := Lib.hid hm2
        have HR2 := Lib.hid hr2
        have HA2 := Lib.hid hap
        have HX2 := Lib.hid hx2
        clear hm2 hg2 hr2 hap hx2
        go_simp
        refine hK _ _ ?_
        clear hK K
        refine wpAny_take (i := 5) (v := ?_) rfl (by kernel_rfl) (by kernel_rfl) (by kernel_rfl) (fun _ _ _ h => h) (Or.inl ⟨by rfl, ?_⟩) ?_
        rotate_left
        · intro w
          go_simp
          try with_reducible rfl
        refine wpAny_ready (rs := [6]) (by kernel_rfl) (by simp) ?_
        refine AllReady.cons rfl (fun K hK => ?_) AllReady.nil
        go_simp
        refine hK _ _ ?_
        clear hK K
        refine wpAny_done (by kernel_rfl) ?_ _
        have hgq := grown_setCell w2 q p (.int .i64 (y : Int))
        have hm3 := HM2.out.beyond hgq (fun b hb => by injection hb with hb; subst hb; exact ⟨by have := HQ.out; have := HWQ.out; omega, HA2.out⟩)
        have hr3 := HR2.out.iaSet p y _ rfl
        have hg3 := HG2.out.beyond hgq (fun b hb => by injection hb with hb; subst hb; exact HWQ.out)
        have c3 := hm3.cell3
        have f3 := hm3.thawed 3
        have hsp := hm3.sp
        have hle := hm3.le
        have hnn := hm3.nn
        obtain ⟨hm4, hg4⟩ := hm3.steps 1 (by rw [(num_ok HX2.out).1, (num_ok HX2.out).2.2]; have := HMd.out.sp; omega) ((s2.steps : Int) + 1) (by simp)
        have HM4 := Lib.hid hm4
        have HG4 := Lib.hid (hg3.trans hg4)
        have HR4 := Lib.hid (hr3.grown (grown_setCell _ g 3 (.int .i64 ((s2.steps : Int) + 1))) (fun e => by injection e with e; have := HQ.out; have := HWQ.out; omega))
        have HA4 := Lib.hid HA2.out
        have hst : s2.steps ≤ 8000000 := by omega
        clear hm3 hr3 hg3 hm4 hg4 hgq hsp hle hnn
        generalize w2.setCell ⟨q, p, none⟩ (.int .i64 (y : Int)) = w3 at HM4 HG4 HR4 c3 f3 ⊢
        go_wp2_with fail
        go_roundw
        case rel =>
          refine ⟨j + 1, v2, _, h.set p y, upd f p y, by omega, by simp, HM4.out, HG4.out, HR4.out, HA4.out, by rw [List.length_set]; exact HI.out.len, low_set HI.out.low p (by omega), fun i hi => ?_, ?_⟩
          · unfold upd
            rw [List.getD_eq_getElem?_getD, List.getElem?_set]
            by_cases e : i = p
            · subst e; rw [if_pos rfl, if_pos rfl, if_pos (by rw [HI.out.len]; exact hp19)]; rfl
            · rw [if_neg e, if_neg (Ne.symm e), HI.out.at_ i hi, List.getD_eq_getElem?_getD]
          · rw [← HI.out.hx, show k - j = (k - (j + 1)) + 1 by omega, ← HP.out]
            exact (bind_same (help_more HX2.out)).symm
        case measure => simp [intOf]; omega
      · go_simp
        go_wp2_with fail
        refine (mnum_any 3 (by omega) wd HMd.out).mono ?_
        rintro e w2 (⟨y, s2, v2, hx2, hm2, hg2, he2⟩ | ⟨k2, b2, v2, hx2, rfl, hb2, hc2, hg2⟩)
        rotate_left
        · refine ⟨rfl, Out.passed HGd.out ?_ hb2 hc2 hg2⟩
          rw [← HI.out.hx, show k - j = (k - (j + 1)) + 1 by omega]
          exact err_bind (help_no hx2)
        obtain rfl := he2
        have cT2 : w2.cell? ⟨0, j, none⟩ = some (.int .i64 (p : Int)) := by rw [← HP.out]; exact hm2.tab j hj19
        have hap := hg2.apart HRd.out.lt HI.out.ap
        have hr2 : Row w2 q (ia f 19) 110 := by
          unfold Row
          rw [hg2.block q HRd.out.lt (by have := HQ.out; have := HWQ.out; omega) (by have := HQ.out; have := HWQ.out; omega) HI.out.ap]
          exact HRd.out
        have hy : y < 8 := num_lt hx2
        have cq := hr2.ia hp19
        have fq := hr2.thawed p
        have HG2 := Lib.hid (HGd.out.trans hg2)
        have HM2 := Lib.hid hm2
        have HR2 := Lib.hid hr2
        have HA2 := Lib.hid hap
        have HX2 := Lib.hid hx2
        clear hm2 hg2 hr2 hap hx2
        go_simp
        refine hK _ _ ?_
        clear hK K
        refine wpAny_ready (rs := [2]) (by kernel_rfl) (by simp) ?_
        refine AllReady.cons rfl (fun K hK => ?_) AllReady.nil
        go_simp
        refine hK _ _ ?_
        clear hK K
        refine wpAny_take (i := 5) (v := ?_) rfl (by kernel_rfl) (by kernel_rfl) (by kernel_rfl) (fun _ _ _ h => h) (Or.inl ⟨by rfl, ?_⟩) ?_
        rotate_left
        · intro w
          go_simp
          try with_reducible rfl
        refine wpAny_ready (rs := [6]) (by kernel_rfl) (by simp) ?_
        refine AllReady.cons rfl (fun K hK => ?_) AllReady.nil
        go_simp
        refine hK _ _ ?_
        clear hK K
        refine wpAny_done (by kernel_rfl) ?_ _
        have hgq := grown_setCell w2 q p (.int .i64 (y : Int))
        have hm3 := HM2.out.beyond hgq (fun b hb => by injection hb with hb; subst hb; exact ⟨by have := HQ.out; have := HWQ.out; omega, HA2.out⟩)
        have hr3 := HR2.out.iaSet p y _ rfl
        have hg3 := HG2.out.beyond hgq (fun b hb => by injection hb with hb; subst hb; exact HWQ.out)
        have c3 := hm3.cell3
        have f3 := hm3.thawed 3
        have hsp := hm3.sp
        have hle := hm3.le
        have hnn := hm3.nn
        obtain ⟨hm4, hg4⟩ := hm3.steps 1 (by rw [(num_ok HX2.out).1, (num_ok HX2.out).2.2]; have := HMd.out.sp; omega) ((s2.steps : Int) + 1) (by simp)
        have HM4 := Lib.hid hm4
        have HG4 := Lib.hid (hg3.trans hg4)
        have HR4 := Lib.hid (hr3.grown (grown_setCell _ g 3 (.int .i64 ((s2.steps : Int) + 1))) (fun e => by injection e with e; have := HQ.out; have := HWQ.out; omega))
        have HA4 := Lib.hid HA2.out
        have hst : s2.steps ≤ 8000000 := by omega
        clear hm3 hr3 hg3 hm4 hg4 hgq hsp hle hnn
        generalize w2.setCell ⟨q, p, none⟩ (.int .i64 (y : Int)) = w3 at HM4 HG4 HR4 c3 f3 ⊢
        go_wp2_with fail
        go_roundw
        case rel =>
          refine ⟨j + 1, v2, _, h.set p y, upd f p y, by omega, by simp, HM4.out, HG4.out, HR4.out, HA4.out, by rw [List.length_set]; exact HI.out.len, low_set HI.out.low p (by omega), fun i hi => ?_, ?_⟩
          · unfold upd
            rw [List.getD_eq_getElem?_getD, List.getElem?_set]
            by_cases e : i = p
            · subst e; rw [if_pos rfl, if_pos rfl, if_pos (by rw [HI.out.len]; exact hp19)]; rfl
            · rw [if_neg e, if_neg (Ne.symm e), HI.out.at_ i hi, List.getD_eq_getElem?_getD]
          · rw [← HI.out.hx, show k - j = (k - (j + 1)) + 1 by omega, ← HP.out]
            exact (bind_same (help_more HX2.out)).symm
        case measure => simp [intOf]; omega
    · obtain rfl : j = k := by omega
      have hd : decide ((j : Int) < (j : Int)) = false := decide_eq_false (by omega)
      have HI := Lib.hid hI
      have HRD : RowKit.Hid (Rd wr wr.heap.size (some ⟨q, 0, none⟩) 19 (is (ints64 h))) := Lib.hid (by rw [← ia_ints hI.len hI.at_]; exact hI.row.rdI hI.row.lt)
      have HXX : RowKit.Hid (helperK h (bitsL l) lim s' = X) := Lib.hid (by rw [← hI.hx, Nat.sub_self]; rfl)
      clear hI
      go_wp2_with fail
      refine (code_any (some ⟨q, 0, none⟩) 19 19 h false wr HRD.out (by simp) (by rw [HI.out.len]; decide) HI.out.low).mono ?_
      rintro e w4 ⟨hb4, ⟨hrt, a, rfl, hl4⟩ | ⟨hno, b, rfl, hb, hcb⟩⟩
      · have HO : RowKit.Hid (Out w g r H A n c l lim v X (codeAns g) (.returned (.pointer (some ⟨a, 0, none⟩))) w4) := Lib.hid (.inl ⟨h, s', v', by rw [← HXX.out]; unfold helperK; rw [if_neg (by rw [hrt]; decide)]; rfl, HI.out.ms.still (grown_of_below hb4), HI.out.mv.trans (Moves.grown v' (grown_of_below hb4) (.inl rfl)), HI.out.len, a, rfl, HI.out.ms.cdh hl4⟩)
        clear hb4 hrt hl4
        go_wp2_with fail
        go_ret
        exact HO.out
      · refine ⟨rfl, Out.passed HI.out.mv ?_ hb hcb (Moves.grown v' (grown_of_below hb4) (.inl rfl))⟩
        rw [← HXX.out]
        unfold helperK
        rw [if_pos hno]
        rfl
end Go.Proofs.YtjipjclbhdgkoaaDoor
