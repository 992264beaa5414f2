
/- Contracts of block and blocks. -/

/- Contracts of packedBy, the closure in Deflate, Deflate. -/

/- Contract of Inflate. -/
import Derived.Test.YtpnnlhegncbfaaaGreatDoorGroupM
import Derived.Test.YtpnnlhegncbfaaaGreatDoorGroupI
namespace Go.Proofs.YtpnnlhegncbfaaaGreatDoor
set_option maxRecDepth 20000
open Go.RowKit

variable {g r H : Nat} {A : Option Addr} {n c : Nat} {l : List UInt8} {lim : Nat} {v : Value} {s : Sx}
theorem Out.after {α : Type} {w w1 w' : World} {v1 : Value} {x : Except Nat (α × Sx)} {P : α → Ending → World → Value → Prop} {e : Ending} (h : Out w1 g r H A n c l lim v1 x P e w') (hm : Moves w w1 g r v v1) : Out w g r H A n c l lim v x P e w' := by
  rcases h with ⟨a, s2, v2, h1, h2, h3, h4⟩ | ⟨k, b, v2, h1, h2, h3, h4, h5⟩
  · exact .inl ⟨a, s2, v2, h1, h2, hm.trans h3, h4⟩
  · exact .inr ⟨k, b, v2, h1, h2, Nat.le_trans hm.size h3, h4, hm.trans h5⟩
theorem block_at {F last kind : Nat} {L : List UInt8} {s1 s2 : Sx} (h1 : numX 1 L lim s = .ok (last, s1)) (h2 : numX 2 L lim s1 = .ok (kind, s2)) : blockX F L lim s = bindX (kindX F kind) (fun _ => pureX (decide (last = 1))) L lim ⟨s2.pos, s2.out, s2.steps + 1⟩ :=
  ok_bind (f := stepX) rfl (ok_bind (num_step h1) (ok_bind (num_step h2) rfl))
theorem block_no1 {F e : Nat} {L : List UInt8} (h1 : numX 1 L lim s = .error e) : blockX F L lim s = .error e := ok_bind (f := stepX) rfl (err_bind (num_step_no h1))
theorem block_no2 {F last e : Nat} {L : List UInt8} {s1 : Sx} (h1 : numX 1 L lim s = .ok (last, s1)) (h2 : numX 2 L lim s1 = .error e) : blockX F L lim s = .error e := ok_bind (f := stepX) rfl (ok_bind (num_step h1) (err_bind (num_step_no h2)))
theorem Out.end0 {w w' : World} {x : Except Nat (Unit × Sx)} {e : Ending} (h : Out w g r H A n c l lim v x unit e w') : (∃ v' s', x = .ok ((), s') ∧ e = .returned (.tuple #[]) ∧ MS w' g r H A n c l lim v' s' ∧ Moves w w' g r v v') ∨ (∃ k b v', x = .error k ∧ e = .panicked (flt ⟨b, 0, none⟩) ∧ w.heap.size ≤ b ∧ w'.cell? ⟨b, 0, none⟩ = some (.int .i64 (k : Int)) ∧ Moves w w' g r v v') := by
  rcases h with ⟨a, s2, v2, h1, h2, h3, h4⟩ | ⟨k, b, v2, h1, h2, h3, h4, h5⟩
  · exact .inl ⟨v2, s2, h1, h4, h2, h3⟩
  · exact .inr ⟨k, b, v2, h1, h2, h3, h4, h5⟩

set_option maxHeartbeats 1000000 in
set_option maxRecDepth 20000 in
theorem block_any (kind F : Nat) (hk : kind < 4) (w : World) (hm : MS w g r H A n c l lim v s) (hs : s.steps + 1 ≤ s.pos) (hF : 8 * n - s.pos < F) :
    Calls Tryz.prog 100 #[.pointer (some ⟨g, 0, none⟩), .int .i64 (kind : Int)] w (fun e w' => ∃ H', Out w g r H' A n c l lim v (kindX F kind (bitsL l) lim ⟨s.pos, s.out, s.steps + 1⟩) unit e w') := by
  have c3 := hm.cell3
  have f3 := hm.thawed 3
  have hle := hm.le
  have hnn := hm.nn
  have hst : s.steps ≤ 8000000 := by omega
  obtain ⟨hm2, hg2⟩ := hm.steps 1 hs ((s.steps : Int) + 1) (by simp)
  have HM := Lib.hid hm2
  have HG := Lib.hid hg2
  have HF := Lib.hid hF
  clear hm hm2 hg2 hle hnn hs hF
  obtain ⟨s2, hs2⟩ : ∃ s2 : Sx, (⟨s.pos, s.out, s.steps + 1⟩ : Sx) = s2 := ⟨_, rfl⟩
  have HF2 : RowKit.Hid (8 * n - s2.pos < F) := Lib.hid (by rw [← hs2]; exact HF.out)
  rw [hs2] at HM ⊢
  obtain ⟨X, HX⟩ : ∃ X, RowKit.Hid (kindX F kind (bitsL l) lim s2 = X) := ⟨_, Lib.hid rfl⟩
  rw [HX.out]
  have hX := HX.out
  unfold kindX at hX
  clear hs2 HF
  rcases (show kind = 0 ∨ kind = 1 ∨ kind = 2 ∨ kind = 3 by omega) with rfl | rfl | rfl | rfl
  · have HX1 : RowKit.Hid (storedX (bitsL l) lim s2 = X) := Lib.hid hX
    clear hX HX
    go_enter Tryz.func100, Tryz.ntmps100
    go_wp2_with fail
    generalize w.setCell ⟨g, 3, none⟩ (.int .i64 ((s.steps : Int) + 1)) = w2 at HM HG ⊢
    refine (plain_anyI w2 HM.out).mono ?_
    intro e w3 hO
    rw [HX1.out] at hO
    have HO := Lib.hid (hO.after HG.out)
    rcases hO.end0 with ⟨v3, s3, h1, rfl, _⟩ | ⟨k, b, v3, h1, rfl, _⟩
    · clear hO
      go_wp2_with fail
      go_end0
      exact ⟨H, HO.out⟩
    · exact ⟨rfl, H, HO.out⟩
  · have HX1 : RowKit.Hid (loopX (letterX fixA fixB) F (bitsL l) lim s2 = X) := Lib.hid hX
    clear hX HX
    go_enter Tryz.func100, Tryz.ntmps100
    go_wp2_with fail
    generalize w.setCell ⟨g, 3, none⟩ (.int .i64 ((s.steps : Int) + 1)) = w2 at HM HG ⊢
    refine (fixedc_any w2 HM.out).mono ?_
    rintro e w3 ⟨a, b, rfl, hm3, hg3, hca, hcb⟩
    have HC := Lib.hid (And.intro hca hcb)
    have HM3 := Lib.hid hm3
    have HG3 := Lib.hid (HG.out.trans hg3)
    clear hca hcb hm3 hg3
    go_wp2_with fail
    refine (letters_any a b fixA fixB F w3 HM3.out HC.out.1 HC.out.2 HF2.out).mono ?_
    intro e w4 hO
    rw [HX1.out] at hO
    have HO := Lib.hid (hO.after HG3.out)
    rcases hO.end0 with ⟨v4, s4, h1, rfl, _⟩ | ⟨k, b4, v4, h1, rfl, _⟩
    · clear hO
      go_wp2_with fail
      go_end0
      exact ⟨_, HO.out⟩
    · exact ⟨rfl, _, HO.out⟩
  · have HX1 : RowKit.Hid (bindX toldX (fun c => loopX (letterX c.1 c.2) F) (bitsL l) lim s2 = X) := Lib.hid hX
    clear hX HX
    go_enter Tryz.func100, Tryz.ntmps100
    go_wp2_with fail
    generalize w.setCell ⟨g, 3, none⟩ (.int .i64 ((s.steps : Int) + 1)) = w2 at HM HG ⊢
    refine (told_any w2 HM.out).mono ?_
    rintro e w3 (⟨p, s3, v3, hx3, hm3, hg3, a, b, rfl, hca, hcb⟩ | ⟨k2, b2, v3, hx3, rfl, hb2, hc2, hg3⟩)
    rotate_left
    · exact ⟨rfl, H, Out.passed HG.out (by rw [← HX1.out]; exact err_bind hx3) hb2 hc2 hg3⟩
    have HC := Lib.hid (And.intro hca hcb)
    have HM3 := Lib.hid hm3
    have HG3 := Lib.hid (HG.out.trans hg3)
    have HX3 := Lib.hid (bind_go hx3 HX1.out)
    have hgt := good_told.all (bitsL l) lim s2 p s3 ⟨bin_bitsL l, by rw [bitsL_length]; omega⟩ hx3 (by rw [HM.out.bits]; exact HM.out.le) HM.out.ol
    have HF3 : RowKit.Hid (8 * n - s3.pos < F) := Lib.hid (by have := HF2.out; have := hgt.1; omega)
    clear hca hcb hm3 hg3 hx3 hgt
    go_wp2_with fail
    refine (letters_any a b p.1 p.2 F w3 HM3.out HC.out.1 HC.out.2 HF3.out).mono ?_
    intro e w4 hO
    rw [HX3.out] at hO
    have HO := Lib.hid (hO.after HG3.out)
    rcases hO.end0 with ⟨v4, s4, h1, rfl, _⟩ | ⟨k, b4, v4, h1, rfl, _⟩
    · clear hO
      go_wp2_with fail
      go_end0
      exact ⟨_, HO.out⟩
    · exact ⟨rfl, _, HO.out⟩
  · have HX1 : RowKit.Hid (X = .error 2) := Lib.hid hX.symm
    clear hX HX
    go_enter Tryz.func100, Tryz.ntmps100
    go_wp2_with fail
    generalize w.setCell ⟨g, 3, none⟩ (.int .i64 ((s.steps : Int) + 1)) = w2 at HM HG ⊢
    refine (throw_any 2 _ w2).mono ?_
    rintro e w3 ⟨rfl, rfl⟩
    exact ⟨rfl, H, Out.thrown HX1.out HG.out 2 rfl⟩

def measB (n r : Nat) (b : Value) (w : World) : Nat := match b with
  | .bool true => 0
  | _ => 8 * n - posOf r w + 1
set_option maxHeartbeats 1000000 in
set_option maxRecDepth 20000 in
theorem blocks_any (F : Nat) (w : World) (hm : MS w g r H A n c l lim v s) (hF : 8 * n < F) :
    Calls Tryz.prog 84 #[.pointer (some ⟨g, 0, none⟩)] w (fun e w' => ∃ H', Out w g r H' A n c l lim v (loopX (blockX F) F (bitsL l) lim s) unit e w') := by
  obtain ⟨X, HX⟩ : ∃ X, RowKit.Hid (loopX (blockX F) F (bitsL l) lim s = X) := ⟨_, Lib.hid rfl⟩
  rw [HX.out]
  have HM := Lib.hid hm
  have HF := Lib.hid hF
  clear hm hF
  go_enter Tryz.func84, Tryz.ntmps84
  go_wp2_with fail
  go_loopw [2] (fun b wr => ∃ (v' : Value) (s' : Sx) (H' : Nat), MS wr g r H' A n c l lim v' s' ∧ Moves w wr g r v v' ∧ ((b = .bool false ∧ ∃ F', 8 * n - s'.pos < F' ∧ loopX (blockX F) F' (bitsL l) lim s' = X) ∨ (b = .bool true ∧ X = .ok ((), s')))) (fun b wr => measB n r b wr)
  case atStart => exact ⟨v, s, H, HM.out, Moves.refl w g r v, .inl ⟨rfl, F, by have := HF.out; omega, HX.out⟩⟩
  case round =>
    clear HM HX
    obtain ⟨v', s', H', hm', hg', ⟨rfl, F', hF', hX'⟩ | ⟨rfl, hX'⟩⟩ := hrel
    · obtain ⟨F1, rfl⟩ : ∃ F1, F' = F1 + 1 := ⟨F' - 1, by omega⟩
      have HM := Lib.hid hm'
      have HG := Lib.hid hg'
      have HF1 : RowKit.Hid (8 * n - s'.pos ≤ F1) := Lib.hid (by omega)
      have HX1 := Lib.hid hX'
      have HPO := Lib.hid hm'.posOf
      clear hm' hg' hF' hX'
      go_wp2_with fail
      refine (mnum_any 1 (by omega) wr HM.out).mono ?_
      rintro e w1 (⟨y, s1, v1, hx1, hm1, hg1, he1⟩ | ⟨k2, b2, v1, hx1, rfl, hb2, hc2, hg1⟩)
      rotate_left
      · exact ⟨rfl, H', Out.passed HG.out (by rw [← HX1.out]; exact loop_no (block_no1 hx1)) hb2 hc2 hg1⟩
      obtain rfl := he1
      have hy : y < 2 := num_lt hx1
      have HM1 := Lib.hid hm1
      have HG1 := Lib.hid (HG.out.trans hg1)
      have HN1 := Lib.hid hx1
      clear hm1 hg1 hx1
      obtain ⟨bb, hbb⟩ : ∃ bb : Bool, ((y : Int) == 1) = bb := ⟨_, rfl⟩
      have HBB : RowKit.Hid (bb = decide (y = 1)) := Lib.hid (by
        rw [← hbb]
        rcases (show y = 0 ∨ y = 1 by omega) with rfl | rfl <;> rfl)
      go_wp2_with fail
      refine (mnum_any 2 (by omega) w1 HM1.out).mono ?_
      rintro e w2 (⟨kind, s2, v2, hx2, hm2, hg2, he2⟩ | ⟨k2, b2, v2, hx2, rfl, hb2, hc2, hg2⟩)
      rotate_left
      · exact ⟨rfl, H', Out.passed HG1.out (by rw [← HX1.out]; exact loop_no (block_no2 HN1.out hx2)) hb2 hc2 hg2⟩
      obtain rfl := he2
      have hkind : kind < 4 := num_lt hx2
      have HM2 := Lib.hid hm2
      have HG2 := Lib.hid (HG1.out.trans hg2)
      have HBK := Lib.hid (block_at (F := F) HN1.out hx2)
      have HP2 : RowKit.Hid (s2.pos = s'.pos + 3 ∧ s2.steps = s'.steps ∧ s'.steps ≤ s'.pos) := Lib.hid (by
        have e1 := num_ok HN1.out
        have e2 := num_ok hx2
        exact ⟨by omega, by omega, HM.out.sp⟩)
      clear hm2 hg2 hx2 HM1 HG1 HN1 HG
      go_wp2_with fail
      refine (block_any kind F hkind w2 HM2.out (by have := HP2.out; omega) (by have := HF.out; omega)).mono ?_
      rintro e w3 ⟨H3, hO⟩
      rcases hO.end0 with ⟨v3, s3, h1, rfl, hm3, hg3⟩ | ⟨k, b, v3, h1, rfl, hb3, hc3, hg3⟩
      · have HM3 := Lib.hid hm3
        have HG3 := Lib.hid (HG2.out.trans hg3)
        have HB3 : RowKit.Hid (blockX F (bitsL l) lim s' = .ok (bb, s3)) := Lib.hid (by rw [HBK.out, HBB.out]; exact ok_bind h1 rfl)
        have hgk := (good_kind F kind).all (bitsL l) lim _ () s3 ⟨bin_bitsL l, by rw [bitsL_length]; omega⟩ h1 (by show s2.pos ≤ _; rw [HM2.out.bits]; exact HM2.out.le) HM2.out.ol
        have HP3 : RowKit.Hid (s'.pos < s3.pos ∧ s3.pos ≤ 8 * n) := Lib.hid ⟨by have := HP2.out; have : s2.pos ≤ s3.pos := hgk.1; omega, hm3.le⟩
        clear hO hm3 hg3 h1 hgk HM2 HG2 HBK HBB hbb
        go_wp2_with fail
        go_roundw
        case rel =>
          refine ⟨v3, s3, H3, HM3.out, HG3.out, ?_⟩
          cases bb with
          | false => exact .inl ⟨rfl, F1, by have := HP3.out; have := HF1.out; omega, by rw [← HX1.out]; exact (loop_go HB3.out).symm⟩
          | true => exact .inr ⟨rfl, by rw [← HX1.out]; exact loop_end HB3.out⟩
        case measure =>
          cases bb with
          | false =>
            show 8 * n - posOf r w3 + 1 < 8 * n - posOf r wr + 1
            rw [HM3.out.posOf, HPO.out]
            have := HP3.out
            omega
          | true => show 0 < 8 * n - posOf r wr + 1; omega
      · exact ⟨rfl, H3, Out.passed HG2.out (by rw [← HX1.out]; refine loop_no ?_; rw [HBK.out]; exact err_bind h1) hb3 hc3 hg3⟩
    · have HM := Lib.hid hm'
      have HG := Lib.hid hg'
      have HX1 := Lib.hid hX'
      clear hm' hg' hX'
      go_wp2_with fail
      go_end0
      exact ⟨H', .inl ⟨(), s', v', HX1.out, HM.out, HG.out, rfl⟩⟩
end Go.Proofs.YtpnnlhegncbfaaaGreatDoor
namespace Go.Proofs.YtpnnlhegncbfaaaGreatDoor
set_option maxRecDepth 20000
open Go.RowKit

theorem Own.blocks {w w' : World} {B : Nat} {v : Value} {l : List UInt8} (h : Own w B v l) (hb : ∀ k, v.ownBlock = some k → w'.heap[k]? = w.heap[k]?) : Own w' B v l := by
  refine ⟨h.1, ?_⟩
  rcases h.2 with h1 | ⟨q, cap, cur, h1, h2, h3, h4⟩
  · exact .inl h1
  · exact .inr ⟨q, cap, cur, h1, h2, by rw [hb q (by rw [h1]; rfl)]; exact h3, h4⟩

end Go.Proofs.YtpnnlhegncbfaaaGreatDoor
namespace Go.Proofs.YtpnnlhegncbfaaaGreatDoor
set_option maxRecDepth 20000
open Go.RowKit

variable {A : Option Addr} {n c : Nat} {l : List UInt8} {lim : Nat}
def zeroR : Value := .agg #[.slice none 0 0, .int .i64 0, .int .i64 0]
/-- What Inflate leaves. -/
def InfM (w : World) (l : List UInt8) (lim : Nat) (e : Ending) (w' : World) : Prop :=
  Below w.heap.size w w' ∧
    ((∃ k, inflF (8 * l.length + 1) (bitsL l) lim = .error k ∧ e = .returned (.tuple #[zeroR, .iface 39 (.int .i64 (k : Int))])) ∨
     (∃ s u, inflF (8 * l.length + 1) (bitsL l) lim = .ok ((), s) ∧ e = .returned (.tuple #[.agg #[u, .int .i64 (((s.pos + 7) / 8 : Nat) : Int), .int .i64 (s.steps : Int)], .nilIface]) ∧ Own w' w.heap.size u s.out))
theorem size25 : (Tryz.prog.info? 88).map (·.size) = some 3 := by kernel_rfl

set_option maxHeartbeats 4000000 in
theorem inflate_range (A : Option Addr) (n c : Nat) (x : Int) (w : World) (hx : x < 0 ∨ 1048576 < x) :
    Calls Tryz.prog 67 #[.slice A n c, .int .i64 x] w fun e w' => e = .returned (.tuple #[zeroR, errV 1]) ∧ Below w.heap.size w w' := by
  have HB : ∀ cs, RowKit.Hid (Below w.heap.size w (w.alloc (.cells cs 88))) := fun cs => Lib.hid (below_make (World.grownBy_alloc w _ none))
  by_cases h0 : x < 0
  · have d0 : decide (x < 0) = true := decide_eq_true h0
    clear hx h0
    go_enter Tryz.func67, Tryz.ntmps67
    go_wp2_with fail
    refine bodyPost_ret (results_two rfl _ _ w.heap.size 88 _ _ _ rfl rfl (Row.new w _ _) Tryz.underlying88 rfl size25) rfl ⟨rfl, (HB _).out⟩
  · have d0 : decide (x < 0) = false := decide_eq_false h0
    have d1 : decide (1048576 < x) = true := decide_eq_true (by omega)
    clear hx h0
    go_enter Tryz.func67, Tryz.ntmps67
    go_wp2_with fail
    refine bodyPost_ret (results_two rfl _ _ w.heap.size 88 _ _ _ rfl rfl (Row.new w _ _) Tryz.underlying88 rfl size25) rfl ⟨rfl, (HB _).out⟩

theorem fin2_blockI {N k : Nat} (w : World) (a : Value) (b : Bool) (h1 : k ≠ N) (h2 : k ≠ N + 1) : (fin2 N w a b).heap[k]? = w.heap[k]? := by
  unfold fin2
  rw [heap_setCell_other _ ⟨N + 1, 0, none⟩ k _ h2, heap_setCell_other _ ⟨N, 0, none⟩ k _ h1]
theorem fin2_sizeI (N : Nat) (w : World) (a : Value) (b : Bool) : (fin2 N w a b).heap.size = w.heap.size := by simp [fin2, World.setCell]
theorem fin2_below {N B : Nat} {w0 w : World} (a : Value) (b : Bool) (h : Below B w0 w) (hN : B ≤ N) : Below B w0 (fin2 N w a b) :=
  ⟨h.os, h.tape, h.output, by rw [fin2_sizeI]; exact h.size, fun k hk => by rw [fin2_blockI w a b (by omega) (by omega)]; exact h.block k hk⟩

set_option maxHeartbeats 4000000 in
set_option maxRecDepth 20000 in
theorem inflate_any (A : Option Addr) (n c : Nat) (l : List UInt8) (lim : Nat) (w : World) (hr : Rd w w.heap.size A n (us l)) (hA : A = none → c = 0) (hn : n ≤ 1000000) (hlim : lim ≤ 1048576) (ht : Tab w) (h0 : 2 < w.heap.size) :
    Calls Tryz.prog 67 #[.slice A n c, .int .i64 (lim : Int)] w (InfM w l lim) := by
  have hl : l.length = n := by have := hr.1; rwa [us_length] at this
  have d0 : decide ((lim : Int) < 0) = false := decide_eq_false (by omega)
  have d1 : decide (1048576 < (lim : Int)) = false := decide_eq_false (by omega)
  have hga := World.grownBy_alloc w (.cells #[.slice none 0 0, .int .i64 0, .int .i64 0] 88) none
  have HR0 := Lib.hid (hr.next (below_make hga))
  have HB0 := Lib.hid (below_make hga)
  have HW0 : RowKit.Hid (Row (w.alloc (.cells #[.slice none 0 0, .int .i64 0, .int .i64 0] 88)) w.heap.size #[.slice none 0 0, .int .i64 0, .int .i64 0] 88) := Lib.hid (Row.new w _ _)
  have HA := Lib.hid hA
  have HT := Lib.hid (And.intro ht h0)
  have HN := Lib.hid (And.intro hn hlim)
  have HL := Lib.hid hl
  clear hr hA hga ht h0 hl hn
  go_enter Tryz.func67, Tryz.ntmps67
  go_wp2_with fail
  generalize w.alloc (.cells #[.slice none 0 0, .int .i64 0, .int .i64 0] 88) = w0 at HR0 HB0 HW0 ⊢
  generalize hrb : w.heap.size = rb at HW0 ⊢
  have HRB := Lib.hid hrb
  clear hrb
  refine (newReader_any A n c l w0 HR0.out HA.out HN.out.1).mono ?_
  rintro e w1 ⟨r, A1, c1, rfl, hr1, hrow1, hc1, hrd1, hab1, hform1, hlc1, hg1⟩
  have HW1 := Lib.hid (HW0.out.grown hg1 (by simp))
  have HB1 := Lib.hid (HB0.out.grown hg1 HB0.out.size (fun _ h => by cases h))
  have H1 := Lib.hid (And.intro hr1 (And.intro hrow1 (And.intro hc1 (And.intro hrd1 (And.intro hform1 hlc1)))))
  have HSZ : RowKit.Hid (rb < w0.heap.size ∧ w0.heap.size ≤ w1.heap.size) := Lib.hid ⟨HW0.out.lt, hg1.size⟩
  clear hr1 hrow1 hc1 hrd1 hab1 hform1 hlc1 hg1 HR0 HW0 HB0
  go_wp2_with fail
  obtain ⟨g, hgz⟩ : ∃ g, w1.heap.size = g := ⟨_, rfl⟩
  rw [hgz]
  have hga := World.grownBy_alloc w1 (.cells #[.pointer (some ⟨r, 0, none⟩), .slice none 0 0, .int .i64 (lim : Int), .int .i64 0, .pointer none, .pointer none] 137) none
  have hrowg := Row.new w1 #[.pointer (some ⟨r, 0, none⟩), .slice none 0 0, .int .i64 (lim : Int), .int .i64 0, .pointer none, .pointer none] 137
  have hszg : (w1.alloc (.cells #[.pointer (some ⟨r, 0, none⟩), .slice none 0 0, .int .i64 (lim : Int), .int .i64 0, .pointer none, .pointer none] 137)).heap.size = g + 1 := by simp [hgz]
  rw [hgz] at hrowg
  have HWg := Lib.hid (HW1.out.grown hga (by simp))
  have HBg := Lib.hid (HB1.out.grown hga HB1.out.size (fun _ h => by cases h))
  obtain ⟨hr1, hrow1, hc1, hrd1, hform1, hlc1⟩ := H1.out
  have hrg : r < g := by rw [← hgz]; exact hrow1.lt
  have hrr := hrow1.grown hga (by simp)
  have hrdg := hrd1.below (w' := w1.alloc (.cells #[.pointer (some ⟨r, 0, none⟩), .slice none 0 0, .int .i64 (lim : Int), .int .i64 0, .pointer none, .pointer none] 137)) ⟨hga.os, hga.tape, hga.output, hga.size, fun k hk => hga.block k (by omega) (by simp)⟩
  have hrb0 : rb < r := by have := HSZ.out; omega
  have hms : MS (w1.alloc (.cells #[.pointer (some ⟨r, 0, none⟩), .slice none 0 0, .int .i64 (lim : Int), .int .i64 0, .pointer none, .pointer none] 137)) g r (g + 1) A1 n c1 l lim (.slice none 0 0) ⟨0, [], 0⟩ :=
    ⟨⟨_, _, hrowg, .inl ⟨rfl, rfl⟩⟩, hrr, hrdg, hc1, hform1, hlc1, Nat.zero_le _, Own.nil _ _, hrg, by have := HT.out.2; have := HRB.out; omega, HT.out.1.block (HBg.out.block 2 HT.out.2), Nat.le_refl _, Nat.zero_le _, HN.out.2, HN.out.1, by rw [hszg]; exact Nat.le_refl _, Nat.lt_succ_self g⟩
  have HSG := Lib.hid hszg
  have HMg := Lib.hid hms
  have HRG := Lib.hid (And.intro hrg hrb0)
  clear hga hrowg hszg hr1 hrow1 hc1 hrd1 hform1 hlc1 hrg hrr hrdg hrb0 hms HW1 HB1 H1 HSZ hgz
  generalize w1.alloc (.cells #[.pointer (some ⟨r, 0, none⟩), .slice none 0 0, .int .i64 (lim : Int), .int .i64 0, .pointer none, .pointer none] 137) = wg at HWg HBg HSG HMg ⊢
  have ha1 := World.grownBy_alloc wg (.cells #[.pointer none] 75) none
  have ha2 := World.grownBy_alloc (wg.alloc (.cells #[.pointer none] 75)) (.cells #[.bool false] 4) none
  have ha := ha1.trans ha2
  have hn0 : ((wg.alloc (.cells #[.pointer none] 75)).alloc (.cells #[.bool false] 4)).heap.size = g + 3 := by simp [HSG.out]
  have hN1 : Row ((wg.alloc (.cells #[.pointer none] 75)).alloc (.cells #[.bool false] 4)) (g + 1) #[.pointer none] 75 := by
    have := (Row.new wg #[.pointer none] 75).grown ha2 (by simp)
    rwa [HSG.out] at this
  have hN2 : Row ((wg.alloc (.cells #[.pointer none] 75)).alloc (.cells #[.bool false] 4)) (g + 2) #[.bool false] 4 := by
    have := Row.new (wg.alloc (.cells #[.pointer none] 75)) #[.bool false] 4
    rwa [show (wg.alloc (.cells #[.pointer none] 75)).heap.size = g + 2 by simp [HSG.out]] at this
  have HMt := Lib.hid (HMg.out.still ha)
  have HWt := Lib.hid (HWg.out.grown ha (by simp))
  have HBt := Lib.hid (HBg.out.grown ha HBg.out.size (fun _ h => by cases h))
  have HNN := Lib.hid (And.intro hn0 (And.intro hN1 hN2))
  have HCC := Lib.hid (blocks_any (8 * n + 1) _ HMt.out (Nat.lt_succ_self _))
  clear ha1 ha2 ha hn0 hN1 hN2
  refine try_cps 84 #[.pointer (some ⟨g, 0, none⟩)] #[] wg _ _ (fun _ _ => rfl) HCC.out ?_
  rintro e w2 ⟨H', hO⟩
  clear HCC
  rw [HSG.out]
  generalize (wg.alloc (.cells #[.pointer none] 75)).alloc (.cells #[.bool false] 4) = wt at HMt HWt HBt HNN hO
  have hinf : inflF (8 * n + 1) (bitsL l) lim = loopX (blockX (8 * n + 1)) (8 * n + 1) (bitsL l) lim ⟨0, [], 0⟩ := rfl
  rw [← hinf] at hO
  have HINF : RowKit.Hid (8 * l.length + 1 = 8 * n + 1) := Lib.hid (by rw [HL.out])
  clear hinf
  have hown0 : ∀ k, some k ≠ (Value.slice none 0 0).ownBlock := fun k e => by cases e
  obtain ⟨vv, hmv⟩ : ∃ vv, Moves wt w2 g r (.slice none 0 0) vv := by
    rcases hO with ⟨_, _, v2, _, _, h3, _⟩ | ⟨_, _, v2, _, _, _, _, h5⟩
    · exact ⟨v2, h3⟩
    · exact ⟨v2, h5⟩
  obtain ⟨hn0, hN1, hN2⟩ := HNN.out
  obtain ⟨hrg, hrb0⟩ := HRG.out
  have hT1 : Row w2 (g + 1) #[.pointer none] 75 := by unfold Row; rw [hmv.block (g + 1) (by omega) (by omega) (by omega) (hown0 _)]; exact hN1
  have hT2 : Row w2 (g + 2) #[.bool false] 4 := by unfold Row; rw [hmv.block (g + 2) (by omega) (by omega) (by omega) (hown0 _)]; exact hN2
  have hRb : Row w2 rb #[.slice none 0 0, .int .i64 0, .int .i64 0] 88 := by unfold Row; rw [hmv.block rb (by omega) (by omega) (by omega) (hown0 _)]; exact HWt.out
  have hBl : Below w.heap.size w w2 := ⟨hmv.os.trans HBt.out.os, hmv.tape.trans HBt.out.tape, hmv.output.trans HBt.out.output, Nat.le_trans HBt.out.size hmv.size, fun k hk => (hmv.block k (by have := HBt.out.size; omega) (by have := HRB.out; omega) (by have := HRB.out; omega) (hown0 _)).trans (HBt.out.block k hk)⟩
  have hTwo : Two (g + 1) w2 := ⟨⟨_, hT1.cell 0⟩, hT1.thawed 0, ⟨_, hT2.cell 0⟩, hT2.thawed 0⟩
  have hsz2 := hmv.size
  refine ⟨hTwo, ?_⟩
  rcases hO.end0 with ⟨v2, s2, h1, rfl, hm2, hg2⟩ | ⟨k, b, v2, h1, rfl, hb2, hc2, hg2⟩
  · refine .inl ⟨_, rfl, ?_⟩
    dsimp only
    have hap : ∀ k, v2.ownBlock = some k → g + 3 ≤ k := fun k hk => by
      rcases hg2.fresh with e | ⟨j, e, hj⟩
      · rw [e] at hk; cases hk
      · rw [e] at hk; injection hk with hk; omega
    obtain ⟨fl, fd, hrow2, _⟩ := hm2.fx
    have hrowg : Row (fin2 (g + 1) w2 (.pointer none) false) g (mcells r v2 lim s2.steps fl fd) 137 := by unfold Row; rw [fin2_blockI w2 _ _ (by omega) (by omega)]; exact hrow2
    have hrowr : Row (fin2 (g + 1) w2 (.pointer none) false) r #[.slice A1 n c1, .int .i64 (s2.pos : Int)] 158 := by unfold Row; rw [fin2_blockI w2 _ _ (by omega) (by omega)]; exact hm2.rrow
    have hrowb : Row (fin2 (g + 1) w2 (.pointer none) false) rb #[.slice none 0 0, .int .i64 0, .int .i64 0] 88 := by unfold Row; rw [fin2_blockI w2 _ _ (by omega) (by omega)]; exact hRb
    have hbel := fin2_below (N := g + 1) (.pointer none) false hBl (by have := HRB.out; omega)
    have hra : RA (fin2 (g + 1) w2 (.pointer none) false) [r] r A1 n c1 l s2.pos :=
      ⟨hrowr, (hm2.rd.below (fin2_below (N := g + 1) (.pointer none) false (Below.refl r w2) (by omega))).rdS (Nat.le_of_lt hrowr.lt) (by simp), hm2.cap, hm2.le, hm2.form, hm2.lc⟩
    have howns : Own (fin2 (g + 1) w2 (.pointer none) false) (g + 1) v2 s2.out := hm2.own.blocks (fun k hk => fin2_blockI w2 _ _ (by have := hap k hk; omega) (by have := hap k hk; omega))
    obtain ⟨A2, c2, hv2⟩ := howns.slice
    obtain ⟨q, hq⟩ : ∃ q, s2.out.length = q := ⟨_, rfl⟩
    rw [hq] at hv2
    subst hv2
    have k0 : (fin2 (g + 1) w2 (.pointer none) false).cell? ⟨g, 0, none⟩ = some (.pointer (some ⟨r, 0, none⟩)) := hrowg.cell 0
    have k1 : (fin2 (g + 1) w2 (.pointer none) false).cell? ⟨g, 1, none⟩ = some (.slice A2 q c2) := hrowg.cell 1
    have k3 : (fin2 (g + 1) w2 (.pointer none) false).cell? ⟨g, 3, none⟩ = some (.int .i64 (s2.steps : Int)) := hrowg.cell 3
    have hple : s2.pos ≤ 8000000 := by have := hm2.le; have := hm2.nn; omega
    have HX : RowKit.Hid (inflF (8 * l.length + 1) (bitsL l) lim = .ok ((), s2)) := Lib.hid (by rw [HINF.out]; exact h1)
    have HRA := Lib.hid hra
    have HRW := Lib.hid hrowb
    have HBL := Lib.hid hbel
    have HOW := Lib.hid howns
    clear hap hrow2 hrowg hrowr hrowb hbel hra howns hm2 hg2 h1 hO hmv hn0 hN1 hN2 hT1 hT2 hRb hBl hTwo hsz2 hq HMt HWt HBt HNN HMg HWg HBg
    generalize fin2 (g + 1) w2 (.pointer none) false = w3 at HRA HRW HBL HOW k0 k1 k3 ⊢
    obtain ⟨st, hst⟩ : ∃ st, s2.steps = st := ⟨_, rfl⟩
    obtain ⟨ps, hps⟩ : ∃ ps, s2.pos = ps := ⟨_, rfl⟩
    rw [hst] at k3
    rw [hps] at HRA hple
    obtain ⟨us, hus⟩ : ∃ us, (ps + 7) / 8 = us := ⟨_, rfl⟩
    obtain ⟨p7, hp7⟩ : ∃ p7, ps + 7 = p7 := ⟨_, rfl⟩
    have e7 : (ps : Int) + 7 = (p7 : Int) := by omega
    have e8 : (p7 : Int).tdiv 8 = (us : Int) := by rw [Int.tdiv_eq_ediv_of_nonneg (by omega)]; omega
    have e9 : (p7 : Int) / 8 = (us : Int) := by omega
    have e10 : IntKind.i64.wrap (p7 : Int) = (p7 : Int) := wrap64_in _ (by omega) (by omega)
    have e11 : IntKind.i64.wrap (us : Int) = (us : Int) := wrap64_in _ (by omega) (by omega)
    have HNM := Lib.hid (And.intro hst (And.intro hps hus))
    clear hst hps hus hp7
    go_wp2_with fail
    go_still_tail 16, (by kernel_rfl)
    still_call (at_any r _ (HRA.out.grown (r := none) (grown_drewN w3 1) (by simp) (fun _ h => by cases h)))
    repeat still_step
    try refine wpStill_nil ?_
    change wpList _ _ _ _ _ w3.drew
    have hrw : Row w3.drew rb #[.slice none 0 0, .int .i64 0, .int .i64 0] 88 := HRW.out
    have hbl := HBL.out.grown (grown_drewN w3 1) HBL.out.size (fun _ h => by cases h)
    have how : Own w3.drew (g + 1) (.slice A2 q c2) s2.out := World.ownsRow.kept HOW.out (grown_drewN w3 1) (own_none _)
    have b0 : w3.drew.cell? ⟨rb, 0, none⟩ = some (.slice none 0 0) := hrw.cell 0
    have b1 : w3.drew.cell? ⟨rb, 1, none⟩ = some (.int .i64 0) := hrw.cell 1
    have b2 : w3.drew.cell? ⟨rb, 2, none⟩ = some (.int .i64 0) := hrw.cell 2
    have f0 := hrw.thawed 0
    have f1 := hrw.thawed 1
    have f2 := hrw.thawed 2
    have HRW4 := Lib.hid hrw
    have HBL4 := Lib.hid (show Below w.heap.size w w3.drew from hbl)
    have HOW4 := Lib.hid how
    clear hrw hbl how k0 k1 k3 HRA HRW HBL HOW
    generalize w3.drew = w4 at HRW4 HBL4 HOW4 b0 b1 b2 f0 f1 f2 ⊢
    go_wp2_with fail
    have hr5 := ((HRW4.out.set 0 (.slice A2 q c2)).set 1 (.int .i64 (us : Int))).set 2 (.int .i64 (st : Int))
    have hg5 : w4.grownBy (((w4.setCell ⟨rb, 0, none⟩ (.slice A2 q c2)).setCell ⟨rb, 1, none⟩ (.int .i64 (us : Int))).setCell ⟨rb, 2, none⟩ (.int .i64 (st : Int))) (some rb) := ((grown_setCell w4 rb 0 _).trans (grown_setCell _ rb 1 _)).trans (grown_setCell _ rb 2 _)
    refine bodyPost_ret (results_two rfl _ _ rb 88 _ _ _ rfl rfl hr5 Tryz.underlying88 rfl size25) rfl ?_
    refine ⟨HBL4.out.grown hg5 HBL4.out.size (fun k hk => by injection hk with hk; have := HRB.out; omega), .inr ⟨s2, .slice A2 q c2, HX.out, ?_, ?_⟩⟩
    · rw [HNM.out.2.1, HNM.out.2.2, HNM.out.1]; rfl
    · refine own_mono (World.ownsRow.kept HOW4.out hg5 ?_) (by have := HRB.out; omega)
      right
      intro e
      have := (World.ownsRow.lt HOW4.out rb e).1
      omega
  · refine .inr (.inl ⟨some ⟨b, 0, none⟩, [], rfl, rfl, ?_⟩)
    dsimp only
    have hrowb : Row (fin2 (g + 1) w2 (.pointer (some ⟨b, 0, none⟩)) true) rb #[.slice none 0 0, .int .i64 0, .int .i64 0] 88 := by unfold Row; rw [fin2_blockI w2 _ _ (by omega) (by omega)]; exact hRb
    have hbel := fin2_below (N := g + 1) (.pointer (some ⟨b, 0, none⟩)) true hBl (by have := HRB.out; omega)
    have hcb : (fin2 (g + 1) w2 (.pointer (some ⟨b, 0, none⟩)) true).cell? ⟨b, 0, none⟩ = some (.int .i64 (k : Int)) := (World.cell?_of_block (w := w2) (a := ⟨b, 0, none⟩) (fin2_blockI w2 _ _ (show b ≠ g + 1 by omega) (show b ≠ g + 1 + 1 by omega))).trans hc2
    have HX : RowKit.Hid (inflF (8 * l.length + 1) (bitsL l) lim = .error k) := Lib.hid (by rw [HINF.out]; exact h1)
    have b0 : (fin2 (g + 1) w2 (.pointer (some ⟨b, 0, none⟩)) true).cell? ⟨rb, 0, none⟩ = some (.slice none 0 0) := hrowb.cell 0
    have b1 : (fin2 (g + 1) w2 (.pointer (some ⟨b, 0, none⟩)) true).cell? ⟨rb, 1, none⟩ = some (.int .i64 0) := hrowb.cell 1
    have b2 : (fin2 (g + 1) w2 (.pointer (some ⟨b, 0, none⟩)) true).cell? ⟨rb, 2, none⟩ = some (.int .i64 0) := hrowb.cell 2
    have f0 := hrowb.thawed 0
    have f1 := hrowb.thawed 1
    have f2 := hrowb.thawed 2
    have HRW := Lib.hid hrowb
    have HBL := Lib.hid hbel
    have HCB := Lib.hid hcb
    clear hrowb hbel hcb hg2 h1 hO hmv hn0 hN1 hN2 hT1 hT2 hRb hBl hTwo hsz2 hb2 hc2 HMt HWt HBt HNN HMg HWg HBg
    generalize fin2 (g + 1) w2 (.pointer (some ⟨b, 0, none⟩)) true = w3 at HRW HBL HCB b0 b1 b2 f0 f1 f2 ⊢
    go_wp2_with fail
    refine (code_fault b 0 k w3 HCB.out).mono ?_
    rintro e w4 ⟨rfl, rfl⟩
    go_wp2_with fail
    have hr5 := ((HRW.out.set 0 (.slice none 0 0)).set 1 (.int .i64 0)).set 2 (.int .i64 0)
    have hg5 : w3.grownBy (((w3.setCell ⟨rb, 0, none⟩ (.slice none 0 0)).setCell ⟨rb, 1, none⟩ (.int .i64 0)).setCell ⟨rb, 2, none⟩ (.int .i64 0)) (some rb) := ((grown_setCell w3 rb 0 _).trans (grown_setCell _ rb 1 _)).trans (grown_setCell _ rb 2 _)
    refine bodyPost_ret (results_two rfl _ _ rb 88 _ _ _ rfl rfl hr5 Tryz.underlying88 rfl size25) rfl ?_
    exact ⟨HBL.out.grown hg5 HBL.out.size (fun k hk => by injection hk with hk; have := HRB.out; omega), .inl ⟨k, HX.out, rfl⟩⟩
end Go.Proofs.YtpnnlhegncbfaaaGreatDoor
