/- Contract of lengths. -/
import Derived.Test.YtjipjclbhdgkoaaDoorMru
namespace Go.Proofs.YtjipjclbhdgkoaaDoor
open Go.RowKit

variable {g r H : Nat} {A : Option Addr} {n c : Nat} {l : List UInt8} {lim : Nat} {v : Value} {s : Sx}
theorem sign_step {ls : List Nat} {L : List UInt8} {y : Nat} {s2 : Sx} (h : signX ls L lim s = .ok (y, s2)) : signX ls L lim ⟨s.pos, s.out, s.steps + 1⟩ = .ok (y, ⟨s2.pos, s2.out, s2.steps + 1⟩) := by
  unfold signX at h ⊢
  split at h
  · cases h
  · rename_i hl
    rw [if_neg hl]
    injection h with h
    injection h with h1 h2
    subst h1 h2
    rfl
theorem sign_step_no {ls : List Nat} {e : Nat} {L : List UInt8} (h : signX ls L lim s = .error e) : signX ls L lim ⟨s.pos, s.out, s.steps + 1⟩ = .error e := by
  unfold signX at h ⊢
  split at h
  · rename_i hl
    rw [if_pos hl]
    exact h
  · cases h
theorem sign_facts {ls : List Nat} {L : List UInt8} {y : Nat} {s2 : Sx} (h : signX ls L lim s = .ok (y, s2)) : y < ls.length ∧ s.pos < s2.pos ∧ s2.out = s.out ∧ s2.steps = s.steps := by
  unfold signX at h
  split at h
  · cases h
  · rename_i hl
    injection h with h
    injection h with h1 h2
    subst h1 h2
    have h3 := tkS_lt (ls := ls) (M := L.drop s.pos) (by omega)
    refine ⟨h3.1, ?_, rfl, rfl⟩
    show s.pos < s.pos + tkN ls (L.drop s.pos)
    rw [h3.2.2]
    have := h3.2.1
    omega
theorem run_facts {x : Nat} {ls : List Nat} {p : Nat × Nat} {s2 : Sx} (h : runX x ls (bitsL l) lim s = .ok (p, s2)) : 1 ≤ p.1 ∧ p.1 ≤ 138 ∧ (x < 19 → Low ls → p.2 ≤ 15) := by
  unfold runX at h
  split at h
  · split at h
    · cases h
    · rename_i h0
      obtain ⟨y, s1, e1, e2⟩ := bind_ok h
      have hy : y < 2 ^ 2 := num_lt e1
      injection e2 with e2; injection e2 with e2 _; subst e2
      refine ⟨by show 1 ≤ 3 + y; omega, by show 3 + y ≤ 138; omega, fun _ hl => ?_⟩
      exact hl _ (List.mem_of_getElem? (last_at (by omega)))
  · split at h
    · obtain ⟨y, s1, e1, e2⟩ := bind_ok h
      have hy : y < 2 ^ 3 := num_lt e1
      injection e2 with e2; injection e2 with e2 _; subst e2
      exact ⟨by show 1 ≤ 3 + y; omega, by show 3 + y ≤ 138; omega, fun _ _ => by show (0 : Nat) ≤ 15; decide⟩
    · split at h
      · obtain ⟨y, s1, e1, e2⟩ := bind_ok h
        have hy : y < 2 ^ 7 := num_lt e1
        injection e2 with e2; injection e2 with e2 _; subst e2
        exact ⟨by show 1 ≤ 11 + y; omega, by show 11 + y ≤ 138; omega, fun _ _ => by show (0 : Nat) ≤ 15; decide⟩
      · injection h with h; injection h with e2 _; subst e2
        exact ⟨by show (1 : Nat) ≤ 1; decide, by show (1 : Nat) ≤ 138; decide, fun _ _ => by show x ≤ 15; omega⟩
theorem lens_more {hl ll : List Nat} {total k x : Nat} {p : Nat × Nat} {L : List UInt8} {s1 s2 : Sx} (h0 : ¬ total ≤ ll.length) (hs : signX hl L lim s = .ok (x, s1)) (hr : runX x ll L lim ⟨s1.pos, s1.out, s1.steps + 1⟩ = .ok (p, s2)) (ht : ¬ total < ll.length + p.1) :
    lensX hl total (k + 1) ll L lim s = lensX hl total k (ll ++ List.replicate p.1 p.2) L lim s2 := by
  rw [lensX, if_neg h0]
  exact ok_bind (f := stepX) rfl (ok_bind (sign_step hs) (ok_bind hr (by rw [if_neg ht])))
theorem lens_no1 {hl ll : List Nat} {total k e : Nat} {L : List UInt8} (h0 : ¬ total ≤ ll.length) (hs : signX hl L lim s = .error e) : lensX hl total (k + 1) ll L lim s = .error e := by
  rw [lensX, if_neg h0]
  exact ok_bind (f := stepX) rfl (err_bind (sign_step_no hs))
theorem lens_no2 {hl ll : List Nat} {total k e x : Nat} {L : List UInt8} {s1 : Sx} (h0 : ¬ total ≤ ll.length) (hs : signX hl L lim s = .ok (x, s1)) (hr : runX x ll L lim ⟨s1.pos, s1.out, s1.steps + 1⟩ = .error e) : lensX hl total (k + 1) ll L lim s = .error e := by
  rw [lensX, if_neg h0]
  exact ok_bind (f := stepX) rfl (ok_bind (sign_step hs) (err_bind hr))
theorem lens_no3 {hl ll : List Nat} {total k x : Nat} {p : Nat × Nat} {L : List UInt8} {s1 s2 : Sx} (h0 : ¬ total ≤ ll.length) (hs : signX hl L lim s = .ok (x, s1)) (hr : runX x ll L lim ⟨s1.pos, s1.out, s1.steps + 1⟩ = .ok (p, s2)) (ht : total < ll.length + p.1) :
    lensX hl total (k + 1) ll L lim s = .error 2 := by
  rw [lensX, if_neg h0]
  exact ok_bind (f := stepX) rfl (ok_bind (sign_step hs) (ok_bind hr (by rw [if_pos ht]; rfl)))
def lenV : Value → Nat
  | .slice _ n _ => n
  | _ => 0
theorem ints_append (a b : List Nat) : ints64 (a ++ b) = ints64 a ++ ints64 b := by simp [ints64]
/-- What lengths answers. -/
def lensAns (total : Nat) (ll : List Nat) (e : Ending) (w' : World) (_ : Value) : Prop :=
  ll.length = total ∧ Low ll ∧ ∃ A2 c2, e = .returned (.slice A2 total c2) ∧ Rd w' w'.heap.size A2 total (is (ints64 ll)) ∧ (A2 = none → c2 = 0) ∧ total ≤ c2
structure LensI (w wr : World) (g r H : Nat) (A : Option Addr) (n c : Nat) (l : List UInt8) (lim a : Nat) (hl : List Nat) (v v' u : Value) (s' : Sx) (ll : List Nat) : Prop where
  ms : MS wr g r H A n c l lim v' s'
  mv : Moves w wr g r v v'
  own : OwnI wr w.heap.size u (ints64 ll)
  ap : ∀ b, u.ownBlock = some b → some b ≠ v'.ownBlock
  cd : CDH wr w.heap.size g v' a hl
  low : Low ll
section
variable {w wr w' : World} {a : Nat} {hl ll : List Nat} {v' u u' : Value} {s' s2 : Sx}
/-- Behind a step of the machine. -/
theorem LensI.step (h : LensI w wr g r H A n c l lim a hl v v' u s' ll) {v2 : Value} (hm : MS w' g r H A n c l lim v2 s2) (hg : Moves wr w' g r v' v2) (hgw : g < w.heap.size) : LensI w w' g r H A n c l lim a hl v v2 u s2 ll := by
  have hlt := World.ownsRow.lt h.own
  have hrg := h.ms.rg
  have hb : ∀ b, u.ownBlock = some b → w'.heap[b]? = wr.heap[b]? := fun b hb => hg.block b (hlt b hb).2 (by have := (hlt b hb).1; omega) (by have := (hlt b hb).1; omega) (h.ap b hb)
  refine ⟨hm, h.mv.trans hg, ?_, fun b hb' => hg.apart (hlt b hb').2 (h.ap b hb'), h.cd.moves h.mv.size hg hrg, h.low⟩
  have ho := h.own
  refine ⟨ho.1, ?_⟩
  rcases ho.2 with h1 | ⟨q, cap, cur, h1, h2, h3, h4⟩
  · exact .inl h1
  · exact .inr ⟨q, cap, cur, h1, h2, by rw [hb q (by rw [h1]; rfl)]; exact h3, h4⟩
/-- Behind an append. -/
theorem LensI.push (h : LensI w wr g r H A n c l lim a hl v v' u s' ll) (hH : H ≤ w.heap.size) {y : Nat} (hy : y ≤ 15) (ho : OwnI w' w.heap.size u' (ints64 (ll ++ [y]))) (hg : wr.grownBy w' u.ownBlock) (hf : Fresh wr u u') : LensI w w' g r H A n c l lim a hl v v' u' s' (ll ++ [y]) := by
  have hlt := World.ownsRow.lt h.own
  refine ⟨h.ms.beyond hg (fun b hb => ⟨Nat.le_trans hH (hlt b hb).1, h.ap b hb⟩), h.mv.beyond hg (fun b hb => (hlt b hb).1), ho, fun b hb => ?_, h.cd.beyond h.mv.size hg (fun b hb => (hlt b hb).1), fun x hx => ?_⟩
  · rcases hf with e | ⟨k, e, hk⟩
    · exact h.ap b (e ▸ hb)
    · rw [e] at hb
      injection hb with hb
      intro e2
      have := (h.ms.ownLt e2.symm).2
      omega
  · rcases List.mem_append.1 hx with h1 | h1
    · exact h.low x h1
    · rw [List.mem_singleton.1 h1]; exact hy
end

set_option maxHeartbeats 2000000 in
set_option maxRecDepth 20000 in
theorem lengths_any (a total : Nat) (hl : List Nat) (h19 : hl.length = 19) (ht : total ≤ 320) (w : World) (hm : MS w g r H A n c l lim v s) (hc : CDH w w.heap.size g v a hl) :
    Calls Tryd.prog 58 #[.pointer (some ⟨g, 0, none⟩), .pointer (some ⟨a, 0, none⟩), .int .i64 (total : Int)] w (Out w g r H A n c l lim v (lensX hl total (total + 1) [] (bitsL l) lim s) (lensAns total)) := by
  obtain ⟨X, HX⟩ : ∃ X, RowKit.Hid (lensX hl total (total + 1) [] (bitsL l) lim s = X) := ⟨_, Lib.hid rfl⟩
  rw [HX.out]
  have HW : RowKit.Hid (g < w.heap.size ∧ H ≤ w.heap.size) := Lib.hid ⟨hm.lt, hm.hs⟩
  have HI : RowKit.Hid (LensI w w g r H A n c l lim a hl v v (.slice none 0 0) s []) := Lib.hid ⟨hm, Moves.refl w g r v, OwnI.nil w _, fun _ hb => (by cases hb), hc, fun _ hx => (by cases hx)⟩
  clear hm hc
  go_enter Tryd.func58, Tryd.ntmps58
  go_wp2_with fail
  go_loopw [7] (fun u wr => ∃ (v' : Value) (s' : Sx) (ll : List Nat), ll.length ≤ total ∧ LensI w wr g r H A n c l lim a hl v v' u s' ll ∧ ∃ F, total - ll.length < F ∧ lensX hl total F ll (bitsL l) lim s' = X) (fun u _ => total - lenV u)
  case atStart => exact ⟨v, s, [], Nat.zero_le _, HI.out, total + 1, by simp, HX.out⟩
  case round =>
    clear HI
    obtain ⟨v', s', ll, hll, hI, F, hF, hX⟩ := hrel
    obtain ⟨A2, c2, rfl⟩ := hI.own.slice
    rw [ints_length] at hI ⊢
    obtain ⟨q, hq⟩ : ∃ q, ll.length = q := ⟨_, rfl⟩
    have HQ := Lib.hid hq
    rw [hq] at hI hF hll ⊢
    have HI := Lib.hid hI
    have HX1 := Lib.hid hX
    clear hX hq
    by_cases hlt : q < total
    · have hd : decide ((q : Int) < (total : Int)) = true := decide_eq_true (by omega)
      obtain ⟨F1, rfl⟩ : ∃ F1, F = F1 + 1 := ⟨F - 1, by omega⟩
      have HF : RowKit.Hid (total - q ≤ F1) := Lib.hid (by omega)
      have HN : RowKit.Hid (¬ total ≤ ll.length) := Lib.hid (by rw [HQ.out]; omega)
      clear hI hF
      go_wp2_with fail
      refine (msign_any a hl wr HI.out.ms (HI.out.cd.cd HI.out.mv.size)).mono ?_
      rintro e w1 (⟨x, s1, v1, hx1, hm1, hg1, he1⟩ | ⟨k2, b2, v1, hx1, rfl, hb2, hc2, hg1⟩)
      rotate_left
      · exact ⟨rfl, Out.passed HI.out.mv (by rw [← HX1.out]; exact lens_no1 HN.out hx1) hb2 hc2 hg1⟩
      obtain rfl := he1
      have hsf := sign_facts hx1
      rw [h19] at hsf
      have hI1 := HI.out.step hm1 hg1 HW.out.1
      have c3 := hm1.cell3
      have f3 := hm1.thawed 3
      have hsp := hm1.sp
      have hle := hm1.le
      have hnn := hm1.nn
      obtain ⟨hm2, hg2⟩ := hm1.steps 1 (by have := HI.out.ms.sp; omega) ((s1.steps : Int) + 1) (by simp)
      have HI2 := Lib.hid (hI1.step hm2 hg2 HW.out.1)
      have HS1 := Lib.hid hx1
      have hx19 : x < 19 := hsf.1
      have hst : s1.steps ≤ 8000000 := by omega
      clear hsf hI1 hsp hle hnn hm2 hg2 hx1 hm1 hg1
      go_wp2_with fail
      generalize w1.setCell ⟨g, 3, none⟩ (.int .i64 ((s1.steps : Int) + 1)) = w2 at HI2 ⊢
      clear c3 f3 hst
      have hrd := HI2.out.own.rd.2
      rw [← HQ.out] at hrd ⊢
      refine (run_any x (by omega) ll A2 c2 w2 HI2.out.ms hrd (fun b o e => by
        subst e
        have h1 := World.ownsRow.lt HI2.out.own b rfl
        exact ⟨by have := HW.out; omega, HI2.out.ap b rfl⟩) (by rw [HQ.out]; omega)).mono ?_
      rw [HQ.out]
      clear hrd
      rintro e w3 (⟨p, s3, v3, hx3, hm3, hg3, he3⟩ | ⟨k2, b2, v3, hx3, rfl, hb2, hc2, hg3⟩)
      rotate_left
      · exact ⟨rfl, Out.passed HI2.out.mv (by rw [← HX1.out]; exact lens_no2 HN.out HS1.out hx3) hb2 hc2 hg3⟩
      obtain rfl := he3
      obtain ⟨times, len⟩ := p
      obtain ⟨hp1, hp2, hp3⟩ := run_facts hx3
      have hlen := hp3 hx19 HI.out.low
      have hp1 : 1 ≤ times := hp1
      have hp2 : times ≤ 138 := hp2
      have hlen : len ≤ 15 := hlen
      have HI3 := Lib.hid (HI2.out.step hm3 hg3 HW.out.1)
      have HR3 := Lib.hid hx3
      clear hp3 hm3 hg3 hx3 HI2
      dsimp only
      by_cases hbig : total < q + times
      · have hd2 : decide ((q : Int) + (times : Int) ≤ (total : Int)) = false := decide_eq_false (by omega)
        go_wp2_with fail
        refine (must_no w3 _ (by first | rfl | (simp; omega))).mono ?_
        rintro e w4 ⟨rfl, rfl⟩
        exact ⟨rfl, Out.thrown (by rw [← HX1.out]; exact lens_no3 HN.out HS1.out HR3.out (by rw [HQ.out]; exact hbig)) HI3.out.mv 2 rfl⟩
      have hd2 : decide ((q : Int) + (times : Int) ≤ (total : Int)) = true := decide_eq_true (by omega)
      go_wp2_with fail
      refine (must_ok w3 _ (by first | rfl | (simp; omega))).mono ?_
      rintro e w4 ⟨rfl, rfl⟩
      clear hd2
      have HX3 : RowKit.Hid (lensX hl total F1 (ll ++ List.replicate times len) (bitsL l) lim s3 = X) := Lib.hid (by rw [← HX1.out]; exact (lens_more HN.out HS1.out HR3.out (by rw [HQ.out]; exact hbig)).symm)
      clear HR3 HS1 HX1 HN HI
      go_wp2_with fail
      go_loopw [7, 40] (fun u i wr => ∃ (j : Nat), j ≤ times ∧ i = .int .i64 (j : Int) ∧ LensI w wr g r H A n c l lim a hl v v3 u s3 (ll ++ List.replicate j len)) (fun _ i _ => times - (intOf i).toNat)
      case atStart => exact ⟨0, Nat.zero_le _, rfl, by simpa using HI3.out⟩
      case round =>
        clear HI3
        obtain ⟨j, hj, rfl, hJ⟩ := hrel
        obtain ⟨A4, c4, rfl⟩ := hJ.own.slice
        rw [ints_length, List.length_append, List.length_replicate, HQ.out] at hJ ⊢
        have HJ := Lib.hid hJ
        have HLJ : RowKit.Hid ((ll ++ List.replicate j len).length = q + j) := Lib.hid (by rw [List.length_append, List.length_replicate, HQ.out])
        clear hJ
        by_cases hjt : j < times
        · have hd3 : decide ((j : Int) < (times : Int)) = true := decide_eq_true (by omega)
          have HB : RowKit.Hid (w.heap.size ≤ wr.heap.size) := Lib.hid HJ.out.mv.size
          have HS : RowKit.Hid ((ints64 (ll ++ List.replicate j len)).length + 1 ≤ 1000000) := Lib.hid (by rw [ints_length, HLJ.out]; omega)
          go_wp2_with (at_builtin; refine pushI wr rfl (.tmp 42) (.tmp 44) rfl w.heap.size _ (ints64 (ll ++ List.replicate j len)) [(len : Int)] _ 1 rfl rfl HJ.out.own rfl rfl HB.out HS.out ?_)
          intro v6 w6 ho6 hg6 hf6
          have he6 : ints64 (ll ++ List.replicate j len) ++ [(len : Int)] = ints64 (ll ++ List.replicate j len ++ [len]) := by rw [ints_append (ll ++ List.replicate j len) [len]]; rfl
          rw [he6] at ho6
          have HJ6 := Lib.hid (HJ.out.push HW.out.2 hlen ho6 hg6 hf6)
          clear ho6 hg6 hf6 he6
          go_wp2_with fail
          go_roundw
          case rel => exact ⟨j + 1, by omega, by simp, by rw [List.replicate_succ', ← List.append_assoc]; exact HJ6.out⟩
          case measure => simp [intOf]; omega
        · obtain rfl : j = times := by omega
          have hd3 : decide ((j : Int) < (j : Int)) = false := decide_eq_false (by omega)
          go_wp2_with fail
          go_roundw
          case rel => exact ⟨v3, s3, ll ++ List.replicate j len, by rw [HLJ.out]; omega, HJ.out, F1, by rw [HLJ.out]; have := HF.out; omega, HX3.out⟩
          case measure => simp [lenV]; omega
    · obtain rfl : q = total := by omega
      have hd : decide ((q : Int) < (q : Int)) = false := decide_eq_false (by omega)
      obtain ⟨F1, rfl⟩ : ∃ F1, F = F1 + 1 := ⟨F - 1, by omega⟩
      have HX2 : RowKit.Hid (X = .ok (ll, s')) := Lib.hid (by rw [← HX1.out, lensX, if_pos (by rw [HQ.out]; exact Nat.le_refl _)]; rfl)
      have HRD := Lib.hid hI.own.rd.2
      have HCZ : RowKit.Hid ((A2 = none → c2 = 0) ∧ q ≤ c2) := Lib.hid ⟨hI.own.capz, by
        rcases hI.own.2 with ⟨h1, h2⟩ | ⟨_, cap, _, h1, _, _, h2, _⟩
        · injection h1 with _ h1 _; omega
        · injection h1 with _ h3 h4; subst h4; rw [ints_length, HQ.out] at h2; exact h2⟩
      clear hI
      go_wp2_with fail
      go_ret
      exact .inl ⟨ll, s', v', HX2.out, HI.out.ms, HI.out.mv, HQ.out, HI.out.low, A2, c2, rfl, HRD.out, HCZ.out.1, HCZ.out.2⟩
end Go.Proofs.YtjipjclbhdgkoaaDoor
