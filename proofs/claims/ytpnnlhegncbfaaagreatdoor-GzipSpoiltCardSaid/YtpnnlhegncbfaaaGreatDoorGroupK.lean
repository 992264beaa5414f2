
/- Contract of helperCode. -/

/- Contract of run. -/

/- Contract of lengths. -/
import Derived.Test.YtpnnlhegncbfaaaGreatDoorGroupJ
namespace Go.Proofs.YtpnnlhegncbfaaaGreatDoor
set_option maxRecDepth 20000
open Go.RowKit

variable {g r H : Nat} {A : Option Addr} {n c : Nat} {l : List UInt8} {lim : Nat} {v : Value} {s : Sx}
theorem num_step {k : Nat} {L : List UInt8} {y : Nat} {s2 : Sx} (h : numX k L lim s = .ok (y, s2)) : numX k L lim ⟨s.pos, s.out, s.steps + 1⟩ = .ok (y, ⟨s2.pos, s2.out, s2.steps + 1⟩) := by
  unfold numX at h ⊢
  split at h
  · cases h
  · rename_i hl
    rw [if_neg hl]
    injection h with h
    injection h with h1 h2
    subst h1 h2
    rfl
theorem num_step_no {k e : Nat} {L : List UInt8} (h : numX k L lim s = .error e) : numX k L lim ⟨s.pos, s.out, s.steps + 1⟩ = .error e := by
  unfold numX at h ⊢
  split at h
  · rename_i hl
    rw [if_pos hl]
    exact h
  · cases h
theorem err_bind {α β : Type} {f : X α} {h : α → X β} {L : List UInt8} {e : Nat} (hf : f L lim s = .error e) : bindX f h L lim s = .error e := by
  unfold bindX; rw [hf]
theorem help_more {m j y : Nat} {h : List Nat} {L : List UInt8} {s2 : Sx} (hx : numX 3 L lim s = .ok (y, s2)) : helpX (m + 1) j h L lim s = helpX m (j + 1) (h.set (places.getD j 0) y) L lim ⟨s2.pos, s2.out, s2.steps + 1⟩ :=
  ok_bind (f := stepX) rfl (ok_bind (num_step hx) rfl)
theorem help_no {m j e : Nat} {h : List Nat} {L : List UInt8} (hx : numX 3 L lim s = .error e) : helpX (m + 1) j h L lim s = .error e :=
  ok_bind (f := stepX) rfl (err_bind (num_step_no hx))
theorem bind_same {α β : Type} {f f' : X α} {h : α → X β} {L : List UInt8} {s' : Sx} (hf : f L lim s = f' L lim s') : bindX f h L lim s = bindX f' h L lim s' := by
  unfold bindX; rw [hf]
/-- The helpers' code. -/
def helperK (h : List Nat) : X (List Nat) := if right h false = false then failX 2 else pureX h
def helperX (k : Nat) : X (List Nat) := bindX (helpX k 0 (List.replicate 19 0)) helperK
def codeAns (g : Nat) (h : List Nat) (e : Ending) (w' : World) (v' : Value) : Prop := h.length = 19 ∧ ∃ a, e = .returned (.pointer (some ⟨a, 0, none⟩)) ∧ CDH w' w'.heap.size g v' a h
theorem info110 : (Tryz.prog.info? 175).map (fun i => (i.zero, i.size)) = some (some (.agg (ia (fun _ => 0) 19)), 19) := by kernel_rfl
theorem places_lt : ∀ j, j < 19 → places.getD j 0 < 19 := by decide
theorem places_len : places.length = 19 := rfl
structure HelpI (w wr : World) (g r H : Nat) (A : Option Addr) (n c : Nat) (l : List UInt8) (lim q k : Nat) (v v' : Value) (X : Except Nat (List Nat × Sx)) (j : Nat) (s' : Sx) (h : List Nat) (f : Nat → Nat) : Prop where
  ms : MS wr g r H A n c l lim v' s'
  mv : Moves w wr g r v v'
  row : Row wr q (ia f 19) 175
  ap : some q ≠ v'.ownBlock
  len : h.length = 19
  low : Low h
  at_ : ∀ i, i < 19 → f i = h.getD i 0
  hx : bindX (helpX (k - j) j h) helperK (bitsL l) lim s' = X
theorem low_set {h : List Nat} (hl : Low h) (i : Nat) {y : Nat} (hy : y ≤ 15) : Low (h.set i y) := fun x hx => by
  rcases List.mem_or_eq_of_mem_set hx with h1 | h1
  · exact hl x h1
  · rw [h1]; exact hy
theorem ia_ints {h : List Nat} {f : Nat → Nat} {m : Nat} (hl : h.length = m) (hf : ∀ i, i < m → f i = h.getD i 0) : (ia f m).toList = is (ints64I h) := by
  apply List.ext_getElem?
  intro i
  rcases Nat.lt_or_ge i m with h1 | h1
  · rw [Array.getElem?_toList, ia_at _ h1, hf i h1]
    simp only [is, ints64I, List.getElem?_map, List.getElem?_eq_getElem (show i < h.length by omega), Option.map_some, List.getD_eq_getElem?_getD, Option.getD_some]
    rfl
  · rw [List.getElem?_eq_none (by rw [Array.length_toList, ia_size]; exact h1), List.getElem?_eq_none (by rw [is_length, ints_lengthI]; omega)]

set_option maxHeartbeats 1000000 in
set_option maxRecDepth 20000 in
theorem helper_any (k : Nat) (hk : k ≤ 19) (w : World) (hm : MS w g r H A n c l lim v s) :
    Calls Tryz.prog 124 #[.pointer (some ⟨g, 0, none⟩), .int .i64 (k : Int)] w (Out w g r H A n c l lim v (helperX k (bitsL l) lim s) (codeAns g)) := by
  obtain ⟨X, HX⟩ : ∃ X, RowKit.Hid (helperX k (bitsL l) lim s = X) := ⟨_, Lib.hid rfl⟩
  rw [HX.out]
  have HM := Lib.hid hm
  clear hm
  go_enter Tryz.func124, Tryz.ntmps124
  go_wp2_with (with_reducible refine halt_alloc 175 ?_)
  refine Lib.hid ?_
  refine alloc_row rfl 175 rfl (ia (fun _ => 0) 19) 19 info110 ?_
  intro w1 r1 g1 s1
  have hI : HelpI w w1 g r H A n c l lim w.heap.size k v v X 0 s (List.replicate 19 0) (fun _ => 0) :=
    ⟨HM.out.still g1, Moves.grown v g1 (.inl rfl), r1, fun e => by have := (HM.out.ownLt e.symm).2; omega, by simp, fun x hx => by rw [List.eq_of_mem_replicate hx]; decide, fun i hi => by rw [List.getD_eq_getElem?_getD, List.getElem?_replicate, if_pos hi]; rfl, HX.out⟩
  have HQ : RowKit.Hid (H ≤ w.heap.size ∧ g < w.heap.size ∧ r < w.heap.size) := Lib.hid ⟨HM.out.hs, HM.out.lt, HM.out.rrow.lt⟩
  have HW : RowKit.Hid (w.heap.size ≤ w.heap.size) := Lib.hid (Nat.le_refl _)
  have HI := Lib.hid hI
  clear hI r1 g1 s1
  generalize hq : w.heap.size = q at HI HQ ⊢
  rw [hq] at HW
  have HWQ : RowKit.Hid (w.heap.size ≤ q) := Lib.hid (Nat.le_of_eq hq)
  clear hq HW
  go_wp2_with fail
  go_loopw [8] (fun i wr => ∃ (j : Nat) (v' : Value) (s' : Sx) (h : List Nat) (f : Nat → Nat), j ≤ k ∧ i = .int .i64 (j : Int) ∧ HelpI w wr g r H A n c l lim q k v v' X j s' h f) (fun i _ => k - (intOf i).toNat)
  case atStart => exact ⟨0, v, s, _, _, Nat.zero_le _, rfl, HI.out⟩
  case round =>
    clear HI
    obtain ⟨j, v', s', h, f, hj, rfl, hI⟩ := hrel
    by_cases hlt : j < k
    · have hd : decide ((j : Int) < (k : Int)) = true := decide_eq_true (by omega)
      have HI := Lib.hid hI
      obtain ⟨p, hp⟩ : ∃ p, places.getD j 0 = p := ⟨_, rfl⟩
      have hp19 : p < 19 := by rw [← hp]; exact places_lt j (by omega)
      have HP := Lib.hid hp
      have hMd := hI.ms.still (drew_grown wr)
      have hGd := hI.mv.trans (Moves.grown (g := g) (r := r) v' (drew_grown wr) (.inl rfl))
      have hRd : Row wr.drew q (ia f 19) 175 := hI.row
      have cT : wr.drew.cell? ⟨2, j, none⟩ = some (.int .i64 (p : Int)) := by rw [← hp]; exact hMd.tab j (by omega)
      have HMd := Lib.hid hMd
      have HGd := Lib.hid hGd
      have HRd := Lib.hid hRd
      have hj19 : j < 19 := by omega
      have hj19i : (j : Int) < 19 := by omega
      have hp19i : (p : Int) < 19 := by omega
      clear hI hp hMd hGd hRd
      go_wp2_with fail
      refine wp_region_any (by kernel_rfl) ?_
      change wpAny _ _ _ _ _ _ _ (World.drew _)
      generalize wr.drew = wd at HMd HGd HRd cT ⊢
      refine wpAny_take (i := 0) (v := ?_) rfl (by kernel_rfl) (by kernel_rfl) (by kernel_rfl) (fun _ _ _ h => h) (Or.inl ⟨by rfl, ?_⟩) ?_
      rotate_left
      · intro w
        go_simp
        try with_reducible rfl
      refine wpAny_take (i := 1) (v := ?_) rfl (by kernel_rfl) (by kernel_rfl) (by kernel_rfl) (fun _ _ _ h => h) (Or.inl ⟨by rfl, ?_⟩) ?_
      rotate_left
      · intro w
        go_simp
        try with_reducible rfl
      refine wpAny_take (i := 3) (v := ?_) rfl (by kernel_rfl) (by kernel_rfl) (by kernel_rfl) (fun _ _ _ h => h) (Or.inl ⟨by rfl, ?_⟩) ?_
      rotate_left
      · intro w
        go_simp
        try with_reducible rfl
      refine wpAny_ready (rs := [2, 4]) (by kernel_rfl) (by simp) ?_
      refine AllReady.cons rfl (fun K hK => ?_) (AllReady.cons rfl (fun K hK => ?_) AllReady.nil)
      · go_simp
        refine hK _ _ ?_
        clear hK K
        refine wpAny_ready (rs := [4]) (by kernel_rfl) (by simp) ?_
        refine AllReady.cons rfl (fun K hK => ?_) AllReady.nil
        go_simp
        go_wp2_with fail
        refine (mnum_any 3 (by omega) wd HMd.out).mono ?_
        rintro e w2 (⟨y, s2, v2, hx2, hm2, hg2, he2⟩ | ⟨k2, b2, v2, hx2, rfl, hb2, hc2, hg2⟩)
        rotate_left
        · refine ⟨rfl, Out.passed HGd.out ?_ hb2 hc2 hg2⟩
          rw [← HI.out.hx, show k - j = (k - (j + 1)) + 1 by omega]
          exact err_bind (help_no hx2)
        obtain rfl := he2
        have cT2 : w2.cell? ⟨2, j, none⟩ = some (.int .i64 (p : Int)) := by rw [← HP.out]; exact hm2.tab j hj19
        have hap := hg2.apart HRd.out.lt HI.out.ap
        have hr2 : Row w2 q (ia f 19) 175 := by
          unfold Row
          rw [hg2.block q HRd.out.lt (by have := HQ.out; have := HWQ.out; omega) (by have := HQ.out; have := HWQ.out; omega) HI.out.ap]
          exact HRd.out
        have hy : y < 8 := num_lt hx2
        have cq := hr2.ia hp19
        have fq := hr2.thawed p
        have HG2 := Lib.hid (HGd.out.trans hg2)
        have HM2 := Lib.hid hm2
        have HR2 := Lib.hid hr2
        have HA2 := Lib.hid hap
        have HX2 := Lib.hid hx2
        clear hm2 hg2 hr2 hap hx2
        go_simp
        refine hK _ _ ?_
        clear hK K
        refine wpAny_take (i := 5) (v := ?_) rfl (by kernel_rfl) (by kernel_rfl) (by kernel_rfl) (fun _ _ _ h => h) (Or.inl ⟨by rfl, ?_⟩) ?_
        rotate_left
        · intro w
          go_simp
          try with_reducible rfl
        refine wpAny_ready (rs := [6]) (by kernel_rfl) (by simp) ?_
        refine AllReady.cons rfl (fun K hK => ?_) AllReady.nil
        go_simp
        refine hK _ _ ?_
        clear hK K
        refine wpAny_done (by kernel_rfl) ?_ _
        have hgq := grown_setCell w2 q p (.int .i64 (y : Int))
        have hm3 := HM2.out.beyond hgq (fun b hb => by injection hb with hb; subst hb; exact ⟨by have := HQ.out; have := HWQ.out; omega, HA2.out⟩)
        have hr3 := HR2.out.iaSet p y _ rfl
        have hg3 := HG2.out.beyond hgq (fun b hb => by injection hb with hb; subst hb; exact HWQ.out)
        have c3 := hm3.cell3
        have f3 := hm3.thawed 3
        have hsp := hm3.sp
        have hle := hm3.le
        have hnn := hm3.nn
        obtain ⟨hm4, hg4⟩ := hm3.steps 1 (by rw [(num_ok HX2.out).1, (num_ok HX2.out).2.2]; have := HMd.out.sp; omega) ((s2.steps : Int) + 1) (by simp)
        have HM4 := Lib.hid hm4
        have HG4 := Lib.hid (hg3.trans hg4)
        have HR4 := Lib.hid (hr3.grown (grown_setCell _ g 3 (.int .i64 ((s2.steps : Int) + 1))) (fun e => by injection e with e; have := HQ.out; have := HWQ.out; omega))
        have HA4 := Lib.hid HA2.out
        have hst : s2.steps ≤ 8000000 := by omega
        clear hm3 hr3 hg3 hm4 hg4 hgq hsp hle hnn
        generalize w2.setCell ⟨q, p, none⟩ (.int .i64 (y : Int)) = w3 at HM4 HG4 HR4 c3 f3 ⊢
        go_wp2_with fail
        go_roundw
        case rel =>
          refine ⟨j + 1, v2, _, h.set p y, upd f p y, by omega, by simp, HM4.out, HG4.out, HR4.out, HA4.out, by rw [List.length_set]; exact HI.out.len, low_set HI.out.low p (by omega), fun i hi => ?_, ?_⟩
          · unfold upd
            rw [List.getD_eq_getElem?_getD, List.getElem?_set]
            by_cases e : i = p
            · subst e; rw [if_pos rfl, if_pos rfl, if_pos (by rw [HI.out.len]; exact hp19)]; rfl
            · rw [if_neg e, if_neg (Ne.symm e), HI.out.at_ i hi, List.getD_eq_getElem?_getD]
          · rw [← HI.out.hx, show k - j = (k - (j + 1)) + 1 by omega, ← HP.out]
            exact (bind_same (help_more HX2.out)).symm
        case measure => simp [intOf]; omega
      · go_simp
        go_wp2_with fail
        refine (mnum_any 3 (by omega) wd HMd.out).mono ?_
        rintro e w2 (⟨y, s2, v2, hx2, hm2, hg2, he2⟩ | ⟨k2, b2, v2, hx2, rfl, hb2, hc2, hg2⟩)
        rotate_left
        · refine ⟨rfl, Out.passed HGd.out ?_ hb2 hc2 hg2⟩
          rw [← HI.out.hx, show k - j = (k - (j + 1)) + 1 by omega]
          exact err_bind (help_no hx2)
        obtain rfl := he2
        have cT2 : w2.cell? ⟨2, j, none⟩ = some (.int .i64 (p : Int)) := by rw [← HP.out]; exact hm2.tab j hj19
        have hap := hg2.apart HRd.out.lt HI.out.ap
        have hr2 : Row w2 q (ia f 19) 175 := by
          unfold Row
          rw [hg2.block q HRd.out.lt (by have := HQ.out; have := HWQ.out; omega) (by have := HQ.out; have := HWQ.out; omega) HI.out.ap]
          exact HRd.out
        have hy : y < 8 := num_lt hx2
        have cq := hr2.ia hp19
        have fq := hr2.thawed p
        have HG2 := Lib.hid (HGd.out.trans hg2)
        have HM2 := Lib.hid hm2
        have HR2 := Lib.hid hr2
        have HA2 := Lib.hid hap
        have HX2 := Lib.hid hx2
        clear hm2 hg2 hr2 hap hx2
        go_simp
        refine hK _ _ ?_
        clear hK K
        refine wpAny_ready (rs := [2]) (by kernel_rfl) (by simp) ?_
        refine AllReady.cons rfl (fun K hK => ?_) AllReady.nil
        go_simp
        refine hK _ _ ?_
        clear hK K
        refine wpAny_take (i := 5) (v := ?_) rfl (by kernel_rfl) (by kernel_rfl) (by kernel_rfl) (fun _ _ _ h => h) (Or.inl ⟨by rfl, ?_⟩) ?_
        rotate_left
        · intro w
          go_simp
          try with_reducible rfl
        refine wpAny_ready (rs := [6]) (by kernel_rfl) (by simp) ?_
        refine AllReady.cons rfl (fun K hK => ?_) AllReady.nil
        go_simp
        refine hK _ _ ?_
        clear hK K
        refine wpAny_done (by kernel_rfl) ?_ _
        have hgq := grown_setCell w2 q p (.int .i64 (y : Int))
        have hm3 := HM2.out.beyond hgq (fun b hb => by injection hb with hb; subst hb; exact ⟨by have := HQ.out; have := HWQ.out; omega, HA2.out⟩)
        have hr3 := HR2.out.iaSet p y _ rfl
        have hg3 := HG2.out.beyond hgq (fun b hb => by injection hb with hb; subst hb; exact HWQ.out)
        have c3 := hm3.cell3
        have f3 := hm3.thawed 3
        have hsp := hm3.sp
        have hle := hm3.le
        have hnn := hm3.nn
        obtain ⟨hm4, hg4⟩ := hm3.steps 1 (by rw [(num_ok HX2.out).1, (num_ok HX2.out).2.2]; have := HMd.out.sp; omega) ((s2.steps : Int) + 1) (by simp)
        have HM4 := Lib.hid hm4
        have HG4 := Lib.hid (hg3.trans hg4)
        have HR4 := Lib.hid (hr3.grown (grown_setCell _ g 3 (.int .i64 ((s2.steps : Int) + 1))) (fun e => by injection e with e; have := HQ.out; have := HWQ.out; omega))
        have HA4 := Lib.hid HA2.out
        have hst : s2.steps ≤ 8000000 := by omega
        clear hm3 hr3 hg3 hm4 hg4 hgq hsp hle hnn
        generalize w2.setCell ⟨q, p, none⟩ (.int .i64 (y : Int)) = w3 at HM4 HG4 HR4 c3 f3 ⊢
        go_wp2_with fail
        go_roundw
        case rel =>
          refine ⟨j + 1, v2, _, h.set p y, upd f p y, by omega, by simp, HM4.out, HG4.out, HR4.out, HA4.out, by rw [List.length_set]; exact HI.out.len, low_set HI.out.low p (by omega), fun i hi => ?_, ?_⟩
          · unfold upd
            rw [List.getD_eq_getElem?_getD, List.getElem?_set]
            by_cases e : i = p
            · subst e; rw [if_pos rfl, if_pos rfl, if_pos (by rw [HI.out.len]; exact hp19)]; rfl
            · rw [if_neg e, if_neg (Ne.symm e), HI.out.at_ i hi, List.getD_eq_getElem?_getD]
          · rw [← HI.out.hx, show k - j = (k - (j + 1)) + 1 by omega, ← HP.out]
            exact (bind_same (help_more HX2.out)).symm
        case measure => simp [intOf]; omega
    · obtain rfl : j = k := by omega
      have hd : decide ((j : Int) < (j : Int)) = false := decide_eq_false (by omega)
      have HI := Lib.hid hI
      have HRD : RowKit.Hid (Rd wr wr.heap.size (some ⟨q, 0, none⟩) 19 (is (ints64I h))) := Lib.hid (by rw [← ia_ints hI.len hI.at_]; exact hI.row.rdI hI.row.lt)
      have HXX : RowKit.Hid (helperK h (bitsL l) lim s' = X) := Lib.hid (by rw [← hI.hx, Nat.sub_self]; rfl)
      clear hI
      go_wp2_with fail
      refine (code_anyI (some ⟨q, 0, none⟩) 19 19 h false wr HRD.out (by simp) (by rw [HI.out.len]; decide) HI.out.low).mono ?_
      rintro e w4 ⟨hb4, ⟨hrt, a, rfl, hl4⟩ | ⟨hno, b, rfl, hb, hcb⟩⟩
      · have HO : RowKit.Hid (Out w g r H A n c l lim v X (codeAns g) (.returned (.pointer (some ⟨a, 0, none⟩))) w4) := Lib.hid (.inl ⟨h, s', v', by rw [← HXX.out]; unfold helperK; rw [if_neg (by rw [hrt]; decide)]; rfl, HI.out.ms.still (grown_of_below hb4), HI.out.mv.trans (Moves.grown v' (grown_of_below hb4) (.inl rfl)), HI.out.len, a, rfl, HI.out.ms.cdh hl4⟩)
        clear hb4 hrt hl4
        go_wp2_with fail
        go_ret
        exact HO.out
      · refine ⟨rfl, Out.passed HI.out.mv ?_ hb hcb (Moves.grown v' (grown_of_below hb4) (.inl rfl))⟩
        rw [← HXX.out]
        unfold helperK
        rw [if_pos hno]
        rfl
end Go.Proofs.YtpnnlhegncbfaaaGreatDoor
namespace Go.Proofs.YtpnnlhegncbfaaaGreatDoor
set_option maxRecDepth 20000
open Go.RowKit

variable {g r H : Nat} {A : Option Addr} {n c : Nat} {l : List UInt8} {lim : Nat} {v : Value} {s : Sx}
def runAns (p : Nat × Nat) (e : Ending) (_ : World) (_ : Value) : Prop := e = .returned (.tuple #[.int .i64 (p.2 : Int), .int .i64 (p.1 : Int)])
theorem last_at {ls : List Nat} (h : 0 < ls.length) : ls[ls.length - 1]? = some (ls.getLastD 0) := by
  cases ls with
  | nil => simp at h
  | cons a t => rw [← List.getLast?_eq_getElem?, List.getLastD_eq_getLast?, List.getLast?_eq_some_getLast (by simp)]; rfl
theorem Rd.keep {w w' : World} {B : Nat} {A : Option Addr} {n : Nat} {xs : List Value} (h : Rd w B A n xs) (hk : ∀ b o, A = some ⟨b, o, none⟩ → b < B → w'.heap[b]? = w.heap[b]?) : Rd w' B A n xs := by
  refine ⟨h.1, fun hn => ?_⟩
  obtain ⟨b, o, rfl, hlt, hc⟩ := h.2 hn
  exact ⟨b, o, rfl, hlt, fun j u hu => (World.cell?_of_block (w := w) (a := ⟨b, o + j, none⟩) (hk b o rfl hlt)).trans (hc j u hu)⟩

set_option maxHeartbeats 1000000 in
set_option maxRecDepth 20000 in
theorem run16_any (ls : List Nat) (A2 : Option Addr) (c2 : Nat) (w : World) (hm : MS w g r H A n c l lim v s) (hr : Rd w w.heap.size A2 ls.length (is (ints64I ls))) (hap : ∀ b o, A2 = some ⟨b, o, none⟩ → g < b ∧ some b ≠ v.ownBlock) (hll : ls.length ≤ 1000) (hl0 : 0 < ls.length) :
    Calls Tryz.prog 126 #[.pointer (some ⟨g, 0, none⟩), .int .i64 16, .slice A2 ls.length c2] w (Out w g r H A n c l lim v (bindX (numX 2) (fun x => pureX (3 + x, ls.getLastD 0)) (bitsL l) lim s) runAns) := by
  obtain ⟨z, hz⟩ : ∃ z, ls.getLastD 0 = z := ⟨_, rfl⟩
  obtain ⟨b, o, rfl, hlt, hc⟩ := hr.2 hl0
  have hcell : w.cell? ⟨b, o + (ls.length - 1), none⟩ = some (.int .i64 (z : Int)) := hc _ _ (by unfold is ints64I; rw [List.getElem?_map, List.getElem?_map, last_at hl0, hz]; rfl)
  have hab := hap b o rfl
  rw [hz]
  obtain ⟨m, hmm⟩ : ∃ m, ls.length = m := ⟨_, rfl⟩
  rw [hmm] at hcell hll hl0 ⊢
  obtain ⟨m1, hm1⟩ : ∃ m1, m - 1 = m1 := ⟨_, rfl⟩
  rw [hm1] at hcell
  have e1 : (m : Int) - 1 = (m1 : Int) := by omega
  have e2 : m1 < m := by omega
  have e3 : IntKind.i64.wrap (m1 : Int) = (m1 : Int) := wrap64_in _ (by omega) (by omega)
  have hd : decide (0 < (m : Int)) = true := decide_eq_true (by omega)
  have cD : w.drew.cell? ⟨b, o + m1, none⟩ = some (.int .i64 (z : Int)) := hcell
  have HB : RowKit.Hid (b < w.drew.heap.size) := Lib.hid hlt
  have HAB := Lib.hid (And.intro hab.1 (And.intro hab.2 hm.rg))
  have HMd := Lib.hid (hm.still (drew_grown w))
  have HGd := Lib.hid (Moves.grown (g := g) (r := r) v (drew_grown w) (.inl rfl))
  clear hz hc hab hmm hm1 hap hr hlt hm
  go_enter Tryz.func126, Tryz.ntmps126
  go_wp2_with fail
  refine (must_ok w _ (by first | rfl | (simp; omega))).mono ?_
  rintro e w1 ⟨rfl, rfl⟩
  go_wp2_with fail
  refine wp_region_any (by kernel_rfl) ?_
  change wpAny _ _ _ _ _ _ _ (World.drew _)
  generalize w.drew = wd at HMd HGd cD HB ⊢
  refine wpAny_take (i := 0) (v := ?_) rfl (by kernel_rfl) (by kernel_rfl) (by kernel_rfl) (fun _ _ _ h => h) (Or.inl ⟨by rfl, ?_⟩) ?_
  rotate_left
  · intro w
    go_simp
    try with_reducible rfl
  refine wpAny_take (i := 1) (v := ?_) rfl (by kernel_rfl) (by kernel_rfl) (by kernel_rfl) (fun _ _ _ h => h) (Or.inl ⟨by rfl, ?_⟩) ?_
  rotate_left
  · intro w
    go_simp
    try with_reducible rfl
  refine wpAny_take (i := 2) (v := ?_) rfl (by kernel_rfl) (by kernel_rfl) (by kernel_rfl) (fun _ _ _ h => h) (Or.inl ⟨by rfl, ?_⟩) ?_
  rotate_left
  · intro w
    go_simp
    try with_reducible rfl
  refine wpAny_take (i := 3) (v := ?_) rfl (by kernel_rfl) (by kernel_rfl) (by kernel_rfl) (fun _ _ _ h => h) (Or.inl ⟨by rfl, ?_⟩) ?_
  rotate_left
  · intro w
    go_simp
    try with_reducible rfl
  refine wpAny_take (i := 4) (v := ?_) rfl (by kernel_rfl) (by kernel_rfl) (by kernel_rfl) (fun _ _ _ h => h) (Or.inl ⟨by rfl, ?_⟩) ?_
  rotate_left
  · intro w
    go_simp
    try with_reducible rfl
  refine wpAny_take (i := 6) (v := ?_) rfl (by kernel_rfl) (by kernel_rfl) (by kernel_rfl) (fun _ _ _ h => h) (Or.inl ⟨by rfl, ?_⟩) ?_
  rotate_left
  · intro w
    go_simp
    try with_reducible rfl
  refine wpAny_ready (rs := [5, 7]) (by kernel_rfl) (by simp) ?_
  refine AllReady.cons rfl (fun K hK => ?_) (AllReady.cons rfl (fun K hK => ?_) AllReady.nil)
  · go_simp
    refine hK _ _ ?_
    clear hK K
    refine wpAny_ready (rs := [7]) (by kernel_rfl) (by simp) ?_
    refine AllReady.cons rfl (fun K hK => ?_) AllReady.nil
    go_simp
    go_wp2_with fail
    refine (mnum_any 2 (by omega) wd HMd.out).mono ?_
    rintro e w2 (⟨y, s2, v2, hx2, hm2, hg2, he2⟩ | ⟨k2, b2, v2, hx2, rfl, hb2, hc2, hg2⟩)
    rotate_left
    · exact ⟨rfl, Out.passed HGd.out (err_bind hx2) hb2 hc2 hg2⟩
    obtain rfl := he2
    have c2D : w2.cell? ⟨b, o + m1, none⟩ = some (.int .i64 (z : Int)) := (World.cell?_of_block (w := wd) (a := ⟨b, o + m1, none⟩) (hg2.block b HB.out (by have := HAB.out; omega) (by have := HAB.out; omega) HAB.out.2.1)).trans cD
    have hy : y < 4 := num_lt hx2
    have E5 : RowKit.Hid (IntKind.i64.wrap (3 + (y : Int)) = 3 + (y : Int)) := Lib.hid (wrap64_in _ (by omega) (by omega))
    have HG2 := Lib.hid (HGd.out.trans hg2)
    have HM2 := Lib.hid hm2
    have HX2 := Lib.hid hx2
    clear hm2 hg2 hx2
    go_simp
    refine hK _ _ ?_
    clear hK K
    refine wpAny_take (i := 8) (v := ?_) rfl (by kernel_rfl) (by kernel_rfl) (by kernel_rfl) (fun _ _ _ h => h) (Or.inl ⟨by rfl, ?_⟩) ?_
    rotate_left
    · intro w
      go_simp
      try with_reducible rfl
    refine wpAny_take (i := 9) (v := ?_) rfl (by kernel_rfl) (by kernel_rfl) (by kernel_rfl) (fun _ _ _ h => h) (Or.inl ⟨by rfl, ?_⟩) ?_
    rotate_left
    · intro w
      go_simp
      try with_reducible rfl
    refine wpAny_take (i := 10) (v := ?_) rfl (by kernel_rfl) (by kernel_rfl) (by kernel_rfl) (fun _ _ _ h => h) (Or.inl ⟨by rfl, ?_⟩) ?_
    rotate_left
    · intro w
      go_simp
      try with_reducible rfl
    refine wpAny_done (by kernel_rfl) ?_ _
    go_wp2_with fail
    go_ret2
    exact .inl ⟨(3 + y, z), s2, v2, ok_bind HX2.out rfl, HM2.out, HG2.out, by unfold runAns; simp [Act.put, E5.out]⟩
  · go_simp
    go_wp2_with fail
    refine (mnum_any 2 (by omega) wd HMd.out).mono ?_
    rintro e w2 (⟨y, s2, v2, hx2, hm2, hg2, he2⟩ | ⟨k2, b2, v2, hx2, rfl, hb2, hc2, hg2⟩)
    rotate_left
    · exact ⟨rfl, Out.passed HGd.out (err_bind hx2) hb2 hc2 hg2⟩
    obtain rfl := he2
    have c2D : w2.cell? ⟨b, o + m1, none⟩ = some (.int .i64 (z : Int)) := (World.cell?_of_block (w := wd) (a := ⟨b, o + m1, none⟩) (hg2.block b HB.out (by have := HAB.out; omega) (by have := HAB.out; omega) HAB.out.2.1)).trans cD
    have hy : y < 4 := num_lt hx2
    have E5 : RowKit.Hid (IntKind.i64.wrap (3 + (y : Int)) = 3 + (y : Int)) := Lib.hid (wrap64_in _ (by omega) (by omega))
    have HG2 := Lib.hid (HGd.out.trans hg2)
    have HM2 := Lib.hid hm2
    have HX2 := Lib.hid hx2
    clear hm2 hg2 hx2
    go_simp
    refine hK _ _ ?_
    clear hK K
    refine wpAny_take (i := 8) (v := ?_) rfl (by kernel_rfl) (by kernel_rfl) (by kernel_rfl) (fun _ _ _ h => h) (Or.inl ⟨by rfl, ?_⟩) ?_
    rotate_left
    · intro w
      go_simp
      try with_reducible rfl
    refine wpAny_ready (rs := [5]) (by kernel_rfl) (by simp) ?_
    refine AllReady.cons rfl (fun K hK => ?_) AllReady.nil
    go_simp
    refine hK _ _ ?_
    clear hK K
    refine wpAny_take (i := 9) (v := ?_) rfl (by kernel_rfl) (by kernel_rfl) (by kernel_rfl) (fun _ _ _ h => h) (Or.inl ⟨by rfl, ?_⟩) ?_
    rotate_left
    · intro w
      go_simp
      try with_reducible rfl
    refine wpAny_take (i := 10) (v := ?_) rfl (by kernel_rfl) (by kernel_rfl) (by kernel_rfl) (fun _ _ _ h => h) (Or.inl ⟨by rfl, ?_⟩) ?_
    rotate_left
    · intro w
      go_simp
      try with_reducible rfl
    refine wpAny_done (by kernel_rfl) ?_ _
    go_wp2_with fail
    go_ret2
    exact .inl ⟨(3 + y, z), s2, v2, ok_bind HX2.out rfl, HM2.out, HG2.out, by unfold runAns; simp [Act.put, E5.out]⟩

set_option maxHeartbeats 1000000 in
theorem run17_any (A2 : Option Addr) (m c2 : Nat) (w : World) (hm : MS w g r H A n c l lim v s) :
    Calls Tryz.prog 126 #[.pointer (some ⟨g, 0, none⟩), .int .i64 17, .slice A2 m c2] w (Out w g r H A n c l lim v (bindX (numX 3) (fun x => pureX (3 + x, 0)) (bitsL l) lim s) runAns) := by
  have HM := Lib.hid hm
  clear hm
  go_enter Tryz.func126, Tryz.ntmps126
  go_wp2_with fail
  refine (mnum_any 3 (by omega) w HM.out).mono ?_
  rintro e w2 (⟨y, s2, v2, hx2, hm2, hg2, he2⟩ | ⟨k2, b2, v2, hx2, rfl, hb2, hc2, hg2⟩)
  rotate_left
  · exact ⟨rfl, Out.passed (Moves.refl w g r v) (err_bind hx2) hb2 hc2 hg2⟩
  obtain rfl := he2
  have hy : y < 2 ^ 3 := num_lt hx2
  have hy2 : y < 128 := Nat.lt_of_lt_of_le hy (by decide)
  have HG2 := Lib.hid hg2
  have HM2 := Lib.hid hm2
  have HX2 := Lib.hid hx2
  clear hm2 hg2 hx2 hy
  go_wp2_with fail
  go_ret2
  exact .inl ⟨(3 + y, 0), s2, v2, ok_bind HX2.out rfl, HM2.out, HG2.out, by unfold runAns; simp⟩

set_option maxHeartbeats 1000000 in
theorem run18_any (A2 : Option Addr) (m c2 : Nat) (w : World) (hm : MS w g r H A n c l lim v s) :
    Calls Tryz.prog 126 #[.pointer (some ⟨g, 0, none⟩), .int .i64 18, .slice A2 m c2] w (Out w g r H A n c l lim v (bindX (numX 7) (fun x => pureX (11 + x, 0)) (bitsL l) lim s) runAns) := by
  have HM := Lib.hid hm
  clear hm
  go_enter Tryz.func126, Tryz.ntmps126
  go_wp2_with fail
  refine (mnum_any 7 (by omega) w HM.out).mono ?_
  rintro e w2 (⟨y, s2, v2, hx2, hm2, hg2, he2⟩ | ⟨k2, b2, v2, hx2, rfl, hb2, hc2, hg2⟩)
  rotate_left
  · exact ⟨rfl, Out.passed (Moves.refl w g r v) (err_bind hx2) hb2 hc2 hg2⟩
  obtain rfl := he2
  have hy : y < 2 ^ 7 := num_lt hx2
  have hy2 : y < 128 := Nat.lt_of_lt_of_le hy (by decide)
  have HG2 := Lib.hid hg2
  have HM2 := Lib.hid hm2
  have HX2 := Lib.hid hx2
  clear hm2 hg2 hx2 hy
  go_wp2_with fail
  go_ret2
  exact .inl ⟨(11 + y, 0), s2, v2, ok_bind HX2.out rfl, HM2.out, HG2.out, by unfold runAns; simp⟩

set_option maxHeartbeats 1000000 in
theorem run_any (x : Nat) (hx : x ≤ 400) (ls : List Nat) (A2 : Option Addr) (c2 : Nat) (w : World) (hm : MS w g r H A n c l lim v s) (hr : Rd w w.heap.size A2 ls.length (is (ints64I ls))) (hap : ∀ b o, A2 = some ⟨b, o, none⟩ → g < b ∧ some b ≠ v.ownBlock) (hll : ls.length ≤ 1000) :
    Calls Tryz.prog 126 #[.pointer (some ⟨g, 0, none⟩), .int .i64 (x : Int), .slice A2 ls.length c2] w (Out w g r H A n c l lim v (runX x ls (bitsL l) lim s) runAns) := by
  unfold runX
  by_cases h16 : x = 16
  · subst h16
    rw [if_pos rfl]
    by_cases h0 : ls.length = 0
    · rw [if_pos h0, h0]
      clear hr hap hll hm
      go_enter Tryz.func126, Tryz.ntmps126
      go_wp2_with fail
      refine (must_no w _ rfl).mono ?_
      rintro e w1 ⟨rfl, rfl⟩
      exact ⟨rfl, Out.thrown rfl (Moves.refl w g r v) 2 rfl⟩
    · rw [if_neg h0]
      exact run16_any ls A2 c2 w hm hr hap hll (by omega)
  · rw [if_neg h16]
    by_cases h17 : x = 17
    · subst h17
      rw [if_pos rfl]
      exact run17_any A2 ls.length c2 w hm
    · rw [if_neg h17]
      by_cases h18 : x = 18
      · subst h18
        rw [if_pos rfl]
        exact run18_any A2 ls.length c2 w hm
      · rw [if_neg h18]
        have d1 : ((x : Int) == 16) = false := by rw [beq_eq_false_iff_ne]; omega
        have d2 : ((x : Int) == 17) = false := by rw [beq_eq_false_iff_ne]; omega
        have d3 : ((x : Int) == 18) = false := by rw [beq_eq_false_iff_ne]; omega
        have HM := Lib.hid hm
        clear hm hr hap hll hx
        generalize ls.length = m
        go_enter Tryz.func126, Tryz.ntmps126
        go_wp2_with fail
        go_ret2
        exact .inl ⟨(1, x), s, v, rfl, HM.out, Moves.refl w g r v, rfl⟩
end Go.Proofs.YtpnnlhegncbfaaaGreatDoor
namespace Go.Proofs.YtpnnlhegncbfaaaGreatDoor
set_option maxRecDepth 20000
open Go.RowKit

variable {g r H : Nat} {A : Option Addr} {n c : Nat} {l : List UInt8} {lim : Nat} {v : Value} {s : Sx}
theorem sign_step {ls : List Nat} {L : List UInt8} {y : Nat} {s2 : Sx} (h : signX ls L lim s = .ok (y, s2)) : signX ls L lim ⟨s.pos, s.out, s.steps + 1⟩ = .ok (y, ⟨s2.pos, s2.out, s2.steps + 1⟩) := by
  unfold signX at h ⊢
  split at h
  · cases h
  · rename_i hl
    rw [if_neg hl]
    injection h with h
    injection h with h1 h2
    subst h1 h2
    rfl
theorem sign_step_no {ls : List Nat} {e : Nat} {L : List UInt8} (h : signX ls L lim s = .error e) : signX ls L lim ⟨s.pos, s.out, s.steps + 1⟩ = .error e := by
  unfold signX at h ⊢
  split at h
  · rename_i hl
    rw [if_pos hl]
    exact h
  · cases h
theorem sign_facts {ls : List Nat} {L : List UInt8} {y : Nat} {s2 : Sx} (h : signX ls L lim s = .ok (y, s2)) : y < ls.length ∧ s.pos < s2.pos ∧ s2.out = s.out ∧ s2.steps = s.steps := by
  unfold signX at h
  split at h
  · cases h
  · rename_i hl
    injection h with h
    injection h with h1 h2
    subst h1 h2
    have h3 := tkS_lt (ls := ls) (M := L.drop s.pos) (by omega)
    refine ⟨h3.1, ?_, rfl, rfl⟩
    show s.pos < s.pos + tkN ls (L.drop s.pos)
    rw [h3.2.2]
    have := h3.2.1
    omega
theorem run_facts {x : Nat} {ls : List Nat} {p : Nat × Nat} {s2 : Sx} (h : runX x ls (bitsL l) lim s = .ok (p, s2)) : 1 ≤ p.1 ∧ p.1 ≤ 138 ∧ (x < 19 → Low ls → p.2 ≤ 15) := by
  unfold runX at h
  split at h
  · split at h
    · cases h
    · rename_i h0
      obtain ⟨y, s1, e1, e2⟩ := bind_ok h
      have hy : y < 2 ^ 2 := num_lt e1
      injection e2 with e2; injection e2 with e2 _; subst e2
      refine ⟨by show 1 ≤ 3 + y; omega, by show 3 + y ≤ 138; omega, fun _ hl => ?_⟩
      exact hl _ (List.mem_of_getElem? (last_at (by omega)))
  · split at h
    · obtain ⟨y, s1, e1, e2⟩ := bind_ok h
      have hy : y < 2 ^ 3 := num_lt e1
      injection e2 with e2; injection e2 with e2 _; subst e2
      exact ⟨by show 1 ≤ 3 + y; omega, by show 3 + y ≤ 138; omega, fun _ _ => by show (0 : Nat) ≤ 15; decide⟩
    · split at h
      · obtain ⟨y, s1, e1, e2⟩ := bind_ok h
        have hy : y < 2 ^ 7 := num_lt e1
        injection e2 with e2; injection e2 with e2 _; subst e2
        exact ⟨by show 1 ≤ 11 + y; omega, by show 11 + y ≤ 138; omega, fun _ _ => by show (0 : Nat) ≤ 15; decide⟩
      · injection h with h; injection h with e2 _; subst e2
        exact ⟨by show (1 : Nat) ≤ 1; decide, by show (1 : Nat) ≤ 138; decide, fun _ _ => by show x ≤ 15; omega⟩
theorem lens_more {hl ll : List Nat} {total k x : Nat} {p : Nat × Nat} {L : List UInt8} {s1 s2 : Sx} (h0 : ¬ total ≤ ll.length) (hs : signX hl L lim s = .ok (x, s1)) (hr : runX x ll L lim ⟨s1.pos, s1.out, s1.steps + 1⟩ = .ok (p, s2)) (ht : ¬ total < ll.length + p.1) :
    lensX hl total (k + 1) ll L lim s = lensX hl total k (ll ++ List.replicate p.1 p.2) L lim s2 := by
  rw [lensX, if_neg h0]
  exact ok_bind (f := stepX) rfl (ok_bind (sign_step hs) (ok_bind hr (by rw [if_neg ht])))
theorem lens_no1 {hl ll : List Nat} {total k e : Nat} {L : List UInt8} (h0 : ¬ total ≤ ll.length) (hs : signX hl L lim s = .error e) : lensX hl total (k + 1) ll L lim s = .error e := by
  rw [lensX, if_neg h0]
  exact ok_bind (f := stepX) rfl (err_bind (sign_step_no hs))
theorem lens_no2 {hl ll : List Nat} {total k e x : Nat} {L : List UInt8} {s1 : Sx} (h0 : ¬ total ≤ ll.length) (hs : signX hl L lim s = .ok (x, s1)) (hr : runX x ll L lim ⟨s1.pos, s1.out, s1.steps + 1⟩ = .error e) : lensX hl total (k + 1) ll L lim s = .error e := by
  rw [lensX, if_neg h0]
  exact ok_bind (f := stepX) rfl (ok_bind (sign_step hs) (err_bind hr))
theorem lens_no3 {hl ll : List Nat} {total k x : Nat} {p : Nat × Nat} {L : List UInt8} {s1 s2 : Sx} (h0 : ¬ total ≤ ll.length) (hs : signX hl L lim s = .ok (x, s1)) (hr : runX x ll L lim ⟨s1.pos, s1.out, s1.steps + 1⟩ = .ok (p, s2)) (ht : total < ll.length + p.1) :
    lensX hl total (k + 1) ll L lim s = .error 2 := by
  rw [lensX, if_neg h0]
  exact ok_bind (f := stepX) rfl (ok_bind (sign_step hs) (ok_bind hr (by rw [if_pos ht]; rfl)))
def lenV : Value → Nat
  | .slice _ n _ => n
  | _ => 0
theorem ints_append (a b : List Nat) : ints64I (a ++ b) = ints64I a ++ ints64I b := by simp [ints64I]
/-- What lengths answers. -/
def lensAns (total : Nat) (ll : List Nat) (e : Ending) (w' : World) (_ : Value) : Prop :=
  ll.length = total ∧ Low ll ∧ ∃ A2 c2, e = .returned (.slice A2 total c2) ∧ Rd w' w'.heap.size A2 total (is (ints64I ll)) ∧ (A2 = none → c2 = 0) ∧ total ≤ c2
structure LensI (w wr : World) (g r H : Nat) (A : Option Addr) (n c : Nat) (l : List UInt8) (lim a : Nat) (hl : List Nat) (v v' u : Value) (s' : Sx) (ll : List Nat) : Prop where
  ms : MS wr g r H A n c l lim v' s'
  mv : Moves w wr g r v v'
  own : OwnI wr w.heap.size u (ints64I ll)
  ap : ∀ b, u.ownBlock = some b → some b ≠ v'.ownBlock
  cd : CDH wr w.heap.size g v' a hl
  low : Low ll
section
variable {w wr w' : World} {a : Nat} {hl ll : List Nat} {v' u u' : Value} {s' s2 : Sx}
/-- Behind a step of the machine. -/
theorem LensI.step (h : LensI w wr g r H A n c l lim a hl v v' u s' ll) {v2 : Value} (hm : MS w' g r H A n c l lim v2 s2) (hg : Moves wr w' g r v' v2) (hgw : g < w.heap.size) : LensI w w' g r H A n c l lim a hl v v2 u s2 ll := by
  have hlt := World.ownsRow.lt h.own
  have hrg := h.ms.rg
  have hb : ∀ b, u.ownBlock = some b → w'.heap[b]? = wr.heap[b]? := fun b hb => hg.block b (hlt b hb).2 (by have := (hlt b hb).1; omega) (by have := (hlt b hb).1; omega) (h.ap b hb)
  refine ⟨hm, h.mv.trans hg, ?_, fun b hb' => hg.apart (hlt b hb').2 (h.ap b hb'), h.cd.moves h.mv.size hg hrg, h.low⟩
  have ho := h.own
  refine ⟨ho.1, ?_⟩
  rcases ho.2 with h1 | ⟨q, cap, cur, h1, h2, h3, h4⟩
  · exact .inl h1
  · exact .inr ⟨q, cap, cur, h1, h2, by rw [hb q (by rw [h1]; rfl)]; exact h3, h4⟩
/-- Behind an append. -/
theorem LensI.push (h : LensI w wr g r H A n c l lim a hl v v' u s' ll) (hH : H ≤ w.heap.size) {y : Nat} (hy : y ≤ 15) (ho : OwnI w' w.heap.size u' (ints64I (ll ++ [y]))) (hg : wr.grownBy w' u.ownBlock) (hf : Fresh wr u u') : LensI w w' g r H A n c l lim a hl v v' u' s' (ll ++ [y]) := by
  have hlt := World.ownsRow.lt h.own
  refine ⟨h.ms.beyond hg (fun b hb => ⟨Nat.le_trans hH (hlt b hb).1, h.ap b hb⟩), h.mv.beyond hg (fun b hb => (hlt b hb).1), ho, fun b hb => ?_, h.cd.beyond h.mv.size hg (fun b hb => (hlt b hb).1), fun x hx => ?_⟩
  · rcases hf with e | ⟨k, e, hk⟩
    · exact h.ap b (e ▸ hb)
    · rw [e] at hb
      injection hb with hb
      intro e2
      have := (h.ms.ownLt e2.symm).2
      omega
  · rcases List.mem_append.1 hx with h1 | h1
    · exact h.low x h1
    · rw [List.mem_singleton.1 h1]; exact hy
end

set_option maxHeartbeats 2000000 in
set_option maxRecDepth 20000 in
theorem lengths_any (a total : Nat) (hl : List Nat) (h19 : hl.length = 19) (ht : total ≤ 320) (w : World) (hm : MS w g r H A n c l lim v s) (hc : CDH w w.heap.size g v a hl) :
    Calls Tryz.prog 123 #[.pointer (some ⟨g, 0, none⟩), .pointer (some ⟨a, 0, none⟩), .int .i64 (total : Int)] w (Out w g r H A n c l lim v (lensX hl total (total + 1) [] (bitsL l) lim s) (lensAns total)) := by
  obtain ⟨X, HX⟩ : ∃ X, RowKit.Hid (lensX hl total (total + 1) [] (bitsL l) lim s = X) := ⟨_, Lib.hid rfl⟩
  rw [HX.out]
  have HW : RowKit.Hid (g < w.heap.size ∧ H ≤ w.heap.size) := Lib.hid ⟨hm.lt, hm.hs⟩
  have HI : RowKit.Hid (LensI w w g r H A n c l lim a hl v v (.slice none 0 0) s []) := Lib.hid ⟨hm, Moves.refl w g r v, OwnI.nil w _, fun _ hb => (by cases hb), hc, fun _ hx => (by cases hx)⟩
  clear hm hc
  go_enter Tryz.func123, Tryz.ntmps123
  go_wp2_with fail
  go_loopw [7] (fun u wr => ∃ (v' : Value) (s' : Sx) (ll : List Nat), ll.length ≤ total ∧ LensI w wr g r H A n c l lim a hl v v' u s' ll ∧ ∃ F, total - ll.length < F ∧ lensX hl total F ll (bitsL l) lim s' = X) (fun u _ => total - lenV u)
  case atStart => exact ⟨v, s, [], Nat.zero_le _, HI.out, total + 1, by simp, HX.out⟩
  case round =>
    clear HI
    obtain ⟨v', s', ll, hll, hI, F, hF, hX⟩ := hrel
    obtain ⟨A2, c2, rfl⟩ := hI.own.slice
    rw [ints_lengthI] at hI ⊢
    obtain ⟨q, hq⟩ : ∃ q, ll.length = q := ⟨_, rfl⟩
    have HQ := Lib.hid hq
    rw [hq] at hI hF hll ⊢
    have HI := Lib.hid hI
    have HX1 := Lib.hid hX
    clear hX hq
    by_cases hlt : q < total
    · have hd : decide ((q : Int) < (total : Int)) = true := decide_eq_true (by omega)
      obtain ⟨F1, rfl⟩ : ∃ F1, F = F1 + 1 := ⟨F - 1, by omega⟩
      have HF : RowKit.Hid (total - q ≤ F1) := Lib.hid (by omega)
      have HN : RowKit.Hid (¬ total ≤ ll.length) := Lib.hid (by rw [HQ.out]; omega)
      clear hI hF
      go_wp2_with fail
      refine (msign_any a hl wr HI.out.ms (HI.out.cd.cd HI.out.mv.size)).mono ?_
      rintro e w1 (⟨x, s1, v1, hx1, hm1, hg1, he1⟩ | ⟨k2, b2, v1, hx1, rfl, hb2, hc2, hg1⟩)
      rotate_left
      · exact ⟨rfl, Out.passed HI.out.mv (by rw [← HX1.out]; exact lens_no1 HN.out hx1) hb2 hc2 hg1⟩
      obtain rfl := he1
      have hsf := sign_facts hx1
      rw [h19] at hsf
      have hI1 := HI.out.step hm1 hg1 HW.out.1
      have c3 := hm1.cell3
      have f3 := hm1.thawed 3
      have hsp := hm1.sp
      have hle := hm1.le
      have hnn := hm1.nn
      obtain ⟨hm2, hg2⟩ := hm1.steps 1 (by have := HI.out.ms.sp; omega) ((s1.steps : Int) + 1) (by simp)
      have HI2 := Lib.hid (hI1.step hm2 hg2 HW.out.1)
      have HS1 := Lib.hid hx1
      have hx19 : x < 19 := hsf.1
      have hst : s1.steps ≤ 8000000 := by omega
      clear hsf hI1 hsp hle hnn hm2 hg2 hx1 hm1 hg1
      go_wp2_with fail
      generalize w1.setCell ⟨g, 3, none⟩ (.int .i64 ((s1.steps : Int) + 1)) = w2 at HI2 ⊢
      clear c3 f3 hst
      have hrd := HI2.out.own.rd.2
      rw [← HQ.out] at hrd ⊢
      refine (run_any x (by omega) ll A2 c2 w2 HI2.out.ms hrd (fun b o e => by
        subst e
        have h1 := World.ownsRow.lt HI2.out.own b rfl
        exact ⟨by have := HW.out; omega, HI2.out.ap b rfl⟩) (by rw [HQ.out]; omega)).mono ?_
      rw [HQ.out]
      clear hrd
      rintro e w3 (⟨p, s3, v3, hx3, hm3, hg3, he3⟩ | ⟨k2, b2, v3, hx3, rfl, hb2, hc2, hg3⟩)
      rotate_left
      · exact ⟨rfl, Out.passed HI2.out.mv (by rw [← HX1.out]; exact lens_no2 HN.out HS1.out hx3) hb2 hc2 hg3⟩
      obtain rfl := he3
      obtain ⟨times, len⟩ := p
      obtain ⟨hp1, hp2, hp3⟩ := run_facts hx3
      have hlen := hp3 hx19 HI.out.low
      have hp1 : 1 ≤ times := hp1
      have hp2 : times ≤ 138 := hp2
      have hlen : len ≤ 15 := hlen
      have HI3 := Lib.hid (HI2.out.step hm3 hg3 HW.out.1)
      have HR3 := Lib.hid hx3
      clear hp3 hm3 hg3 hx3 HI2
      dsimp only
      by_cases hbig : total < q + times
      · have hd2 : decide ((q : Int) + (times : Int) ≤ (total : Int)) = false := decide_eq_false (by omega)
        go_wp2_with fail
        refine (must_no w3 _ (by first | rfl | (simp; omega))).mono ?_
        rintro e w4 ⟨rfl, rfl⟩
        exact ⟨rfl, Out.thrown (by rw [← HX1.out]; exact lens_no3 HN.out HS1.out HR3.out (by rw [HQ.out]; exact hbig)) HI3.out.mv 2 rfl⟩
      have hd2 : decide ((q : Int) + (times : Int) ≤ (total : Int)) = true := decide_eq_true (by omega)
      go_wp2_with fail
      refine (must_ok w3 _ (by first | rfl | (simp; omega))).mono ?_
      rintro e w4 ⟨rfl, rfl⟩
      clear hd2
      have HX3 : RowKit.Hid (lensX hl total F1 (ll ++ List.replicate times len) (bitsL l) lim s3 = X) := Lib.hid (by rw [← HX1.out]; exact (lens_more HN.out HS1.out HR3.out (by rw [HQ.out]; exact hbig)).symm)
      clear HR3 HS1 HX1 HN HI
      go_wp2_with fail
      go_loopw [7, 40] (fun u i wr => ∃ (j : Nat), j ≤ times ∧ i = .int .i64 (j : Int) ∧ LensI w wr g r H A n c l lim a hl v v3 u s3 (ll ++ List.replicate j len)) (fun _ i _ => times - (intOf i).toNat)
      case atStart => exact ⟨0, Nat.zero_le _, rfl, by simpa using HI3.out⟩
      case round =>
        clear HI3
        obtain ⟨j, hj, rfl, hJ⟩ := hrel
        obtain ⟨A4, c4, rfl⟩ := hJ.own.slice
        rw [ints_lengthI, List.length_append, List.length_replicate, HQ.out] at hJ ⊢
        have HJ := Lib.hid hJ
        have HLJ : RowKit.Hid ((ll ++ List.replicate j len).length = q + j) := Lib.hid (by rw [List.length_append, List.length_replicate, HQ.out])
        clear hJ
        by_cases hjt : j < times
        · have hd3 : decide ((j : Int) < (times : Int)) = true := decide_eq_true (by omega)
          have HB : RowKit.Hid (w.heap.size ≤ wr.heap.size) := Lib.hid HJ.out.mv.size
          have HS : RowKit.Hid ((ints64I (ll ++ List.replicate j len)).length + 1 ≤ 1000000) := Lib.hid (by rw [ints_lengthI, HLJ.out]; omega)
          go_wp2_with (at_builtin; refine pushI wr rfl (.tmp 42) (.tmp 44) rfl w.heap.size _ (ints64I (ll ++ List.replicate j len)) [(len : Int)] _ 1 rfl rfl HJ.out.own rfl rfl HB.out HS.out ?_)
          intro v6 w6 ho6 hg6 hf6
          have he6 : ints64I (ll ++ List.replicate j len) ++ [(len : Int)] = ints64I (ll ++ List.replicate j len ++ [len]) := by rw [ints_append (ll ++ List.replicate j len) [len]]; rfl
          rw [he6] at ho6
          have HJ6 := Lib.hid (HJ.out.push HW.out.2 hlen ho6 hg6 hf6)
          clear ho6 hg6 hf6 he6
          go_wp2_with fail
          go_roundw
          case rel => exact ⟨j + 1, by omega, by simp, by rw [List.replicate_succ', ← List.append_assoc]; exact HJ6.out⟩
          case measure => simp [intOf]; omega
        · obtain rfl : j = times := by omega
          have hd3 : decide ((j : Int) < (j : Int)) = false := decide_eq_false (by omega)
          go_wp2_with fail
          go_roundw
          case rel => exact ⟨v3, s3, ll ++ List.replicate j len, by rw [HLJ.out]; omega, HJ.out, F1, by rw [HLJ.out]; have := HF.out; omega, HX3.out⟩
          case measure => simp [lenV]; omega
    · obtain rfl : q = total := by omega
      have hd : decide ((q : Int) < (q : Int)) = false := decide_eq_false (by omega)
      obtain ⟨F1, rfl⟩ : ∃ F1, F = F1 + 1 := ⟨F - 1, by omega⟩
      have HX2 : RowKit.Hid (X = .ok (ll, s')) := Lib.hid (by rw [← HX1.out, lensX, if_pos (by rw [HQ.out]; exact Nat.le_refl _)]; rfl)
      have HRD := Lib.hid hI.own.rd.2
      have HCZ : RowKit.Hid ((A2 = none → c2 = 0) ∧ q ≤ c2) := Lib.hid ⟨hI.own.capz, by
        rcases hI.own.2 with ⟨h1, h2⟩ | ⟨_, cap, _, h1, _, _, h2, _⟩
        · injection h1 with _ h1 _; omega
        · injection h1 with _ h3 h4; subst h4; rw [ints_lengthI, HQ.out] at h2; exact h2⟩
      clear hI
      go_wp2_with fail
      go_ret
      exact .inl ⟨ll, s', v', HX2.out, HI.out.ms, HI.out.mv, HQ.out, HI.out.low, A2, c2, rfl, HRD.out, HCZ.out.1, HCZ.out.2⟩
end Go.Proofs.YtpnnlhegncbfaaaGreatDoor
