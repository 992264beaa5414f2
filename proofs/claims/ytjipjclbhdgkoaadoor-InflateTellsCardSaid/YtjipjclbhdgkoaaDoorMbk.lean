/- Contracts of block and blocks. -/
import Derived.Test.YtjipjclbhdgkoaaDoorMlt
import Derived.Test.YtjipjclbhdgkoaaDoorMtd
namespace Go.Proofs.YtjipjclbhdgkoaaDoor
open Go.RowKit

variable {g r H : Nat} {A : Option Addr} {n c : Nat} {l : List UInt8} {lim : Nat} {v : Value} {s : Sx}
theorem Out.after {α : Type} {w w1 w' : World} {v1 : Value} {x : Except Nat (α × Sx)} {P : α → Ending → World → Value → Prop} {e : Ending} (h : Out w1 g r H A n c l lim v1 x P e w') (hm : Moves w w1 g r v v1) : Out w g r H A n c l lim v x P e w' := by
  rcases h with ⟨a, s2, v2, h1, h2, h3, h4⟩ | ⟨k, b, v2, h1, h2, h3, h4, h5⟩
  · exact .inl ⟨a, s2, v2, h1, h2, hm.trans h3, h4⟩
  · exact .inr ⟨k, b, v2, h1, h2, Nat.le_trans hm.size h3, h4, hm.trans h5⟩
theorem block_at {F last kind : Nat} {L : List UInt8} {s1 s2 : Sx} (h1 : numX 1 L lim s = .ok (last, s1)) (h2 : numX 2 L lim s1 = .ok (kind, s2)) : blockX F L lim s = bindX (kindX F kind) (fun _ => pureX (decide (last = 1))) L lim ⟨s2.pos, s2.out, s2.steps + 1⟩ :=
  ok_bind (f := stepX) rfl (ok_bind (num_step h1) (ok_bind (num_step h2) rfl))
theorem block_no1 {F e : Nat} {L : List UInt8} (h1 : numX 1 L lim s = .error e) : blockX F L lim s = .error e := ok_bind (f := stepX) rfl (err_bind (num_step_no h1))
theorem block_no2 {F last e : Nat} {L : List UInt8} {s1 : Sx} (h1 : numX 1 L lim s = .ok (last, s1)) (h2 : numX 2 L lim s1 = .error e) : blockX F L lim s = .error e := ok_bind (f := stepX) rfl (ok_bind (num_step h1) (err_bind (num_step_no h2)))
theorem Out.end0 {w w' : World} {x : Except Nat (Unit × Sx)} {e : Ending} (h : Out w g r H A n c l lim v x unit e w') : (∃ v' s', x = .ok ((), s') ∧ e = .returned (.tuple #[]) ∧ MS w' g r H A n c l lim v' s' ∧ Moves w w' g r v v') ∨ (∃ k b v', x = .error k ∧ e = .panicked (flt ⟨b, 0, none⟩) ∧ w.heap.size ≤ b ∧ w'.cell? ⟨b, 0, none⟩ = some (.int .i64 (k : Int)) ∧ Moves w w' g r v v') := by
  rcases h with ⟨a, s2, v2, h1, h2, h3, h4⟩ | ⟨k, b, v2, h1, h2, h3, h4, h5⟩
  · exact .inl ⟨v2, s2, h1, h4, h2, h3⟩
  · exact .inr ⟨k, b, v2, h1, h2, h3, h4, h5⟩

set_option maxHeartbeats 1000000 in
set_option maxRecDepth 20000 in
theorem block_any (kind F : Nat) (hk : kind < 4) (w : World) (hm : MS w g r H A n c l lim v s) (hs : s.steps + 1 ≤ s.pos) (hF : 8 * n - s.pos < F) :
    Calls Tryd.prog 28 #[.pointer (some ⟨g, 0, none⟩), .int .i64 (kind : Int)] w (fun e w' => ∃ H', Out w g r H' A n c l lim v (kindX F kind (bitsL l) lim ⟨s.pos, s.out, s.steps + 1⟩) unit e w') := by
  have c3 := hm.cell3
  have f3 := hm.thawed 3
  have hle := hm.le
  have hnn := hm.nn
  have hst : s.steps ≤ 8000000 := by omega
  obtain ⟨hm2, hg2⟩ := hm.steps 1 hs ((s.steps : Int) + 1) (by simp)
  have HM := Lib.hid hm2
  have HG := Lib.hid hg2
  have HF := Lib.hid hF
  clear hm hm2 hg2 hle hnn hs hF
  obtain ⟨s2, hs2⟩ : ∃ s2 : Sx, (⟨s.pos, s.out, s.steps + 1⟩ : Sx) = s2 := ⟨_, rfl⟩
  have HF2 : RowKit.Hid (8 * n - s2.pos < F) := Lib.hid (by rw [← hs2]; exact HF.out)
  rw [hs2] at HM ⊢
  obtain ⟨X, HX⟩ : ∃ X, RowKit.Hid (kindX F kind (bitsL l) lim s2 = X) := ⟨_, Lib.hid rfl⟩
  rw [HX.out]
  have hX := HX.out
  unfold kindX at hX
  clear hs2 HF
  rcases (show kind = 0 ∨ kind = 1 ∨ kind = 2 ∨ kind = 3 by omega) with rfl | rfl | rfl | rfl
  · have HX1 : RowKit.Hid (storedX (bitsL l) lim s2 = X) := Lib.hid hX
    clear hX HX
    go_enter Tryd.func28, Tryd.ntmps28
    go_wp2_with fail
    generalize w.setCell ⟨g, 3, none⟩ (.int .i64 ((s.steps : Int) + 1)) = w2 at HM HG ⊢
    refine (plain_any w2 HM.out).mono ?_
    intro e w3 hO
    rw [HX1.out] at hO
    have HO := Lib.hid (hO.after HG.out)
    rcases hO.end0 with ⟨v3, s3, h1, rfl, _⟩ | ⟨k, b, v3, h1, rfl, _⟩
    · clear hO
      go_wp2_with fail
      go_end0
      exact ⟨H, HO.out⟩
    · exact ⟨rfl, H, HO.out⟩
  · have HX1 : RowKit.Hid (loopX (letterX fixA fixB) F (bitsL l) lim s2 = X) := Lib.hid hX
    clear hX HX
    go_enter Tryd.func28, Tryd.ntmps28
    go_wp2_with fail
    generalize w.setCell ⟨g, 3, none⟩ (.int .i64 ((s.steps : Int) + 1)) = w2 at HM HG ⊢
    refine (fixedc_any w2 HM.out).mono ?_
    rintro e w3 ⟨a, b, rfl, hm3, hg3, hca, hcb⟩
    have HC := Lib.hid (And.intro hca hcb)
    have HM3 := Lib.hid hm3
    have HG3 := Lib.hid (HG.out.trans hg3)
    clear hca hcb hm3 hg3
    go_wp2_with fail
    refine (letters_any a b fixA fixB F w3 HM3.out HC.out.1 HC.out.2 HF2.out).mono ?_
    intro e w4 hO
    rw [HX1.out] at hO
    have HO := Lib.hid (hO.after HG3.out)
    rcases hO.end0 with ⟨v4, s4, h1, rfl, _⟩ | ⟨k, b4, v4, h1, rfl, _⟩
    · clear hO
      go_wp2_with fail
      go_end0
      exact ⟨_, HO.out⟩
    · exact ⟨rfl, _, HO.out⟩
  · have HX1 : RowKit.Hid (bindX toldX (fun c => loopX (letterX c.1 c.2) F) (bitsL l) lim s2 = X) := Lib.hid hX
    clear hX HX
    go_enter Tryd.func28, Tryd.ntmps28
    go_wp2_with fail
    generalize w.setCell ⟨g, 3, none⟩ (.int .i64 ((s.steps : Int) + 1)) = w2 at HM HG ⊢
    refine (told_any w2 HM.out).mono ?_
    rintro e w3 (⟨p, s3, v3, hx3, hm3, hg3, a, b, rfl, hca, hcb⟩ | ⟨k2, b2, v3, hx3, rfl, hb2, hc2, hg3⟩)
    rotate_left
    · exact ⟨rfl, H, Out.passed HG.out (by rw [← HX1.out]; exact err_bind hx3) hb2 hc2 hg3⟩
    have HC := Lib.hid (And.intro hca hcb)
    have HM3 := Lib.hid hm3
    have HG3 := Lib.hid (HG.out.trans hg3)
    have HX3 := Lib.hid (bind_go hx3 HX1.out)
    have hgt := good_told.all (bitsL l) lim s2 p s3 ⟨bin_bitsL l, by rw [bitsL_length]; omega⟩ hx3 (by rw [HM.out.bits]; exact HM.out.le) HM.out.ol
    have HF3 : RowKit.Hid (8 * n - s3.pos < F) := Lib.hid (by have := HF2.out; have := hgt.1; omega)
    clear hca hcb hm3 hg3 hx3 hgt
    go_wp2_with fail
    refine (letters_any a b p.1 p.2 F w3 HM3.out HC.out.1 HC.out.2 HF3.out).mono ?_
    intro e w4 hO
    rw [HX3.out] at hO
    have HO := Lib.hid (hO.after HG3.out)
    rcases hO.end0 with ⟨v4, s4, h1, rfl, _⟩ | ⟨k, b4, v4, h1, rfl, _⟩
    · clear hO
      go_wp2_with fail
      go_end0
      exact ⟨_, HO.out⟩
    · exact ⟨rfl, _, HO.out⟩
  · have HX1 : RowKit.Hid (X = .error 2) := Lib.hid hX.symm
    clear hX HX
    go_enter Tryd.func28, Tryd.ntmps28
    go_wp2_with fail
    generalize w.setCell ⟨g, 3, none⟩ (.int .i64 ((s.steps : Int) + 1)) = w2 at HM HG ⊢
    refine (throw_any 2 _ w2).mono ?_
    rintro e w3 ⟨rfl, rfl⟩
    exact ⟨rfl, H, Out.thrown HX1.out HG.out 2 rfl⟩

def measB (n r : Nat) (b : Value) (w : World) : Nat := match b with
  | .bool true => 0
  | _ => 8 * n - posOf r w + 1
set_option maxHeartbeats 1000000 in
set_option maxRecDepth 20000 in
theorem blocks_any (F : Nat) (w : World) (hm : MS w g r H A n c l lim v s) (hF : 8 * n < F) :
    Calls Tryd.prog 14 #[.pointer (some ⟨g, 0, none⟩)] w (fun e w' => ∃ H', Out w g r H' A n c l lim v (loopX (blockX F) F (bitsL l) lim s) unit e w') := by
  obtain ⟨X, HX⟩ : ∃ X, RowKit.Hid (loopX (blockX F) F (bitsL l) lim s = X) := ⟨_, Lib.hid rfl⟩
  rw [HX.out]
  have HM := Lib.hid hm
  have HF := Lib.hid hF
  clear hm hF
  go_enter Tryd.func14, Tryd.ntmps14
  go_wp2_with fail
  go_loopw [2] (fun b wr => ∃ (v' : Value) (s' : Sx) (H' : Nat), MS wr g r H' A n c l lim v' s' ∧ Moves w wr g r v v' ∧ ((b = .bool false ∧ ∃ F', 8 * n - s'.pos < F' ∧ loopX (blockX F) F' (bitsL l) lim s' = X) ∨ (b = .bool true ∧ X = .ok ((), s')))) (fun b wr => measB n r b wr)
  case atStart => exact ⟨v, s, H, HM.out, Moves.refl w g r v, .inl ⟨rfl, F, by have := HF.out; omega, HX.out⟩⟩
  case round =>
    clear HM HX
    obtain ⟨v', s', H', hm', hg', ⟨rfl, F', hF', hX'⟩ | ⟨rfl, hX'⟩⟩ := hrel
    · obtain ⟨F1, rfl⟩ : ∃ F1, F' = F1 + 1 := ⟨F' - 1, by omega⟩
      have HM := Lib.hid hm'
      have HG := Lib.hid hg'
      have HF1 : RowKit.Hid (8 * n - s'.pos ≤ F1) := Lib.hid (by omega)
      have HX1 := Lib.hid hX'
      have HPO := Lib.hid hm'.posOf
      clear hm' hg' hF' hX'
      go_wp2_with fail
      refine (mnum_any 1 (by omega) wr HM.out).mono ?_
      rintro e w1 (⟨y, s1, v1, hx1, hm1, hg1, he1⟩ | ⟨k2, b2, v1, hx1, rfl, hb2, hc2, hg1⟩)
      rotate_left
      · exact ⟨rfl, H', Out.passed HG.out (by rw [← HX1.out]; exact loop_no (block_no1 hx1)) hb2 hc2 hg1⟩
      obtain rfl := he1
      have hy : y < 2 := num_lt hx1
      have HM1 := Lib.hid hm1
      have HG1 := Lib.hid (HG.out.trans hg1)
      have HN1 := Lib.hid hx1
      clear hm1 hg1 hx1
      obtain ⟨bb, hbb⟩ : ∃ bb : Bool, ((y : Int) == 1) = bb := ⟨_, rfl⟩
      have HBB : RowKit.Hid (bb = decide (y = 1)) := Lib.hid (by
        rw [← hbb]
        rcases (show y = 0 ∨ y = 1 by omega) with rfl | rfl <;> rfl)
      go_wp2_with fail
      refine (mnum_any 2 (by omega) w1 HM1.out).mono ?_
      rintro e w2 (⟨kind, s2, v2, hx2, hm2, hg2, he2⟩ | ⟨k2, b2, v2, hx2, rfl, hb2, hc2, hg2⟩)
      rotate_left
      · exact ⟨rfl, H', Out.passed HG1.out (by rw [← HX1.out]; exact loop_no (block_no2 HN1.out hx2)) hb2 hc2 hg2⟩
      obtain rfl := he2
      have hkind : kind < 4 := num_lt hx2
      have HM2 := Lib.hid hm2
      have HG2 := Lib.hid (HG1.out.trans hg2)
      have HBK := Lib.hid (block_at (F := F) HN1.out hx2)
      have HP2 : RowKit.Hid (s2.pos = s'.pos + 3 ∧ s2.steps = s'.steps ∧ s'.steps ≤ s'.pos) := Lib.hid (by
        have e1 := num_ok HN1.out
        have e2 := num_ok hx2
        exact ⟨by omega, by omega, HM.out.sp⟩)
      clear hm2 hg2 hx2 HM1 HG1 HN1 HG
      go_wp2_with fail
      refine (block_any kind F hkind w2 HM2.out (by have := HP2.out; omega) (by have := HF.out; omega)).mono ?_
      rintro e w3 ⟨H3, hO⟩
      rcases hO.end0 with ⟨v3, s3, h1, rfl, hm3, hg3⟩ | ⟨k, b, v3, h1, rfl, hb3, hc3, hg3⟩
      · have HM3 := Lib.hid hm3
        have HG3 := Lib.hid (HG2.out.trans hg3)
        have HB3 : RowKit.Hid (blockX F (bitsL l) lim s' = .ok (bb, s3)) := Lib.hid (by rw [HBK.out, HBB.out]; exact ok_bind h1 rfl)
        have hgk := (good_kind F kind).all (bitsL l) lim _ () s3 ⟨bin_bitsL l, by rw [bitsL_length]; omega⟩ h1 (by show s2.pos ≤ _; rw [HM2.out.bits]; exact HM2.out.le) HM2.out.ol
        have HP3 : RowKit.Hid (s'.pos < s3.pos ∧ s3.pos ≤ 8 * n) := Lib.hid ⟨by have := HP2.out; have : s2.pos ≤ s3.pos := hgk.1; omega, hm3.le⟩
        clear hO hm3 hg3 h1 hgk HM2 HG2 HBK HBB hbb
        go_wp2_with fail
        go_roundw
        case rel =>
          refine ⟨v3, s3, H3, HM3.out, HG3.out, ?_⟩
          cases bb with
          | false => exact .inl ⟨rfl, F1, by have := HP3.out; have := HF1.out; omega, by rw [← HX1.out]; exact (loop_go HB3.out).symm⟩
          | true => exact .inr ⟨rfl, by rw [← HX1.out]; exact loop_end HB3.out⟩
        case measure =>
          cases bb with
          | false =>
            show 8 * n - posOf r w3 + 1 < 8 * n - posOf r wr + 1
            rw [HM3.out.posOf, HPO.out]
            have := HP3.out
            omega
          | true => show 0 < 8 * n - posOf r wr + 1; omega
      · exact ⟨rfl, H3, Out.passed HG2.out (by rw [← HX1.out]; refine loop_no ?_; rw [HBK.out]; exact err_bind h1) hb3 hc3 hg3⟩
    · have HM := Lib.hid hm'
      have HG := Lib.hid hg'
      have HX1 := Lib.hid hX'
      clear hm' hg' hX'
      go_wp2_with fail
      go_end0
      exact ⟨H', .inl ⟨(), s', v', HX1.out, HM.out, HG.out, rfl⟩⟩
end Go.Proofs.YtjipjclbhdgkoaaDoor
